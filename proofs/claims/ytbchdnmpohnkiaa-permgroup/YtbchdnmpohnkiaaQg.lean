/- lotdrawerkeep.PermGroup: the walk. -/
import Derived.Test.YtbchdnmpohnkiaaP9
import Derived.Test.YtbchdnmpohnkiaaP4
import Derived.Test.YtbchdnmpohnkiaaPs
namespace Go.Proofs.Ytbchdnmpohnkiaa
open Go.RowKit Go.Deep

theorem thenR_ok {p q : List Int} (hp : Ok p) (hq : Ok q) (hl : p.length = q.length) : thenR p q = (thenL p q, 0) := if_pos ⟨hp, hq, hl⟩
theorem idn_ok {n : Nat} (h : n ≤ 20) : Ok (idn n) := ok_of_perm (by rw [idn_len]; exact h) (by rw [idn_len])

set_option maxRecDepth 100000 in
set_option maxHeartbeats 4000000 in
theorem permGroup_walk (A B C : Option Addr) (ca cb cc : Nat) (p q r : List Int) (w : World) (hp : IP w A ca p) (hq : IP w B cb q) (hr : IP w C cc r) :
    Calls Try.prog 7 #[.slice A p.length ca, .slice B q.length cb, .slice C r.length cc] w fun e w' => e = .returned (.bool true) ∧ Below w.heap.size w w' := by
  have CA := Lib.hid (alive4_any w)
  have HP := Lib.hid hp
  have HQ := Lib.hid hq
  have HR := Lib.hid hr
  clear hp hq hr
  go_enter Try.func7, Try.ntmps7
  go_wp2_with fail
  refine CA.out.mono ?_
  rintro e w1 ⟨rfl, hB1⟩
  have HB := Lib.hid hB1
  have C1 := Lib.hid (permThen_any A B ca cb p q w1 (HP.out.later hB1) (HQ.out.later hB1))
  clear CA hB1
  go_wp2_with fail
  refine C1.out.mono ?_
  rintro e w2 ⟨R2, c2, rfl, hI2, hB2⟩
  have HB := Lib.hid (HB.out.trans (hB2.mono HB.out.size))
  have C2 := Lib.hid (permThen_any B C cb cc q r w2 (HQ.out.later HB.out) (HR.out.later HB.out))
  have I2 := Lib.hid hI2
  clear C1 hB2 hI2
  by_cases h1 : Ok p ∧ Ok q ∧ p.length = q.length
  · obtain ⟨hp, hq, hl⟩ := h1
    rw [thenR_ok hp hq hl] at I2 ⊢
    have HOp := Lib.hid hp
    have HOq := Lib.hid hq
    have HL := Lib.hid hl
    have hp20 := hp.1
    clear hp hq hl
    unfold ltup
    simp only [] at I2 ⊢
    go_wp2_with fail
    refine C2.out.mono ?_
    rintro e w3 ⟨R3, c3, rfl, hI3, hB3⟩
    have HB := Lib.hid (HB.out.trans (hB3.mono HB.out.size))
    have C3 := Lib.hid (permBack_any A ca p w3 (HP.out.later HB.out))
    unfold backR at C3
    rw [if_pos HOp.out] at C3
    have I2 := Lib.hid (I2.out.later hB3)
    have I3 := Lib.hid hI3
    clear C2 hB3 hI3
    by_cases h2 : Ok q ∧ Ok r ∧ q.length = r.length
    · obtain ⟨_, hr, hl2⟩ := h2
      rw [thenR_ok HOq.out hr hl2] at I3 ⊢
      have HOr := Lib.hid hr
      have HL2 := Lib.hid hl2
      clear hr hl2
      unfold ltup
      simp only [] at I3 ⊢
      go_wp2_with fail
      refine C3.out.mono ?_
      rintro e w4 ⟨R4, c4, rfl, hI4, hB4⟩
      have HB := Lib.hid (HB.out.trans (hB4.mono HB.out.size))
      have I2 := Lib.hid (I2.out.later hB4)
      have I3 := Lib.hid (I3.out.later hB4)
      have hI4' : IP w4 R4 c4 (backL p) := hI4
      have I4 := Lib.hid hI4'
      have O2 := thenL_ok HOp.out HOq.out HL.out
      have O3 := thenL_ok HOq.out HOr.out HL2.out
      have C4 := Lib.hid (permThen_any R2 C c2 cc (thenL p q) r w4 I2.out (HR.out.later HB.out))
      rw [thenR_ok O2 HOr.out (by rw [thenL_len, HL.out, HL2.out])] at C4
      have EA := Lib.hid (thenL_assoc (r := r) HOp.out HL.out)
      have HO3 := Lib.hid O3
      clear C3 hB4 hI4 hI4' O2 O3
      unfold ltup
      simp only []
      go_wp2_with fail
      refine C4.out.mono ?_
      rintro e w5 ⟨R5, c5, rfl, hI5, hB5⟩
      have HB := Lib.hid (HB.out.trans (hB5.mono HB.out.size))
      have I3 := I3.out.later hB5
      have I4 := Lib.hid (I4.out.later hB5)
      have hI5' : IP w5 R5 c5 (thenL (thenL p q) r) := hI5
      have I5 := Lib.hid hI5'
      have C5 := Lib.hid (permThen_any A R3 ca c3 p (thenL q r) w5 (HP.out.later HB.out) I3)
      rw [thenR_ok HOp.out HO3.out (by rw [thenL_len, HL.out]), ← EA.out] at C5
      clear C4 hB5 hI5 hI5' I3 I2 HO3
      unfold ltup
      simp only []
      go_wp2_with fail
      refine C5.out.mono ?_
      rintro e w6 ⟨R6, c6, rfl, hI6, hB6⟩
      have HB := Lib.hid (HB.out.trans (hB6.mono HB.out.size))
      have I4 := Lib.hid (I4.out.later hB6)
      have I5 := Lib.hid (I5.out.later hB6)
      have hI6' : IP w6 R6 c6 (thenL (thenL p q) r) := hI6
      have I6 := Lib.hid hI6'
      have C6 := Lib.hid (permThen_any A R4 ca c4 p (backL p) w6 (HP.out.later HB.out) I4.out)
      rw [thenR_ok HOp.out (backL_ok HOp.out) (by rw [backL_len]), thenL_back HOp.out] at C6
      clear C5 hB6 hI6 hI6'
      unfold ltup
      simp only []
      go_wp2_with fail
      refine C6.out.mono ?_
      rintro e w7 ⟨R7, c7, rfl, hI7, hB7⟩
      have HB := Lib.hid (HB.out.trans (hB7.mono HB.out.size))
      have I4 := I4.out.later hB7
      have I5 := Lib.hid (I5.out.later hB7)
      have I6 := Lib.hid (I6.out.later hB7)
      have hI7' : IP w7 R7 c7 (idn p.length) := hI7
      have I7 := Lib.hid hI7'
      have C7 := Lib.hid (permBack_any R4 c4 (backL p) w7 I4)
      unfold backR at C7
      rw [if_pos (backL_ok HOp.out), backL_back HOp.out] at C7
      clear C6 hB7 hI7 hI7' I4
      unfold ltup
      simp only []
      go_wp2_with fail
      refine C7.out.mono ?_
      rintro e w8 ⟨R8, c8, rfl, hI8, hB8⟩
      have HB := Lib.hid (HB.out.trans (hB8.mono HB.out.size))
      have I5 := I5.out.later hB8
      have I6 := I6.out.later hB8
      have I7 := Lib.hid (I7.out.later hB8)
      have hI8' : IP w8 R8 c8 p := hI8
      have I8 := Lib.hid hI8'
      have C8 := Lib.hid (iequal_any R5 R6 c5 c6 _ _ w8 I5.il I6.il (Nat.le_trans I5.le I5.cap) (Nat.le_trans I6.le I6.cap))
      simp only [decide_true] at C8
      clear C7 hB8 hI8 hI8' I5 I6
      unfold ltup
      simp only []
      generalize thenL (thenL p q) r = x at *
      go_wp2_with fail
      refine C8.out.mono ?_
      rintro e w9 ⟨rfl, hB9⟩
      have HB := Lib.hid (HB.out.trans (hB9.mono HB.out.size))
      have I7 := Lib.hid (I7.out.later hB9)
      have I8 := Lib.hid (I8.out.later hB9)
      have C9 := Lib.hid (isSorted_any R7 c7 (idn p.length) w9 I7.out (fun k hk => by rw [idn_len] at hk; rw [idn_at hk, idn_at (by omega)]; omega))
      clear C8 hB9
      go_wp2_with fail
      refine C9.out.mono ?_
      rintro e wa ⟨rfl, hBa⟩
      have HB := Lib.hid (HB.out.trans (hBa.mono HB.out.size))
      have I7 := Lib.hid (I7.out.later hBa)
      have I8 := I8.out.later hBa
      have Ca := Lib.hid (iequal_any R8 A c8 ca p p wa I8.il (HP.out.later HB.out).il (Nat.le_trans I8.le I8.cap) (Nat.le_trans I8.le I8.cap))
      simp only [decide_true] at Ca
      clear C9 hBa I8
      go_wp2_with fail
      refine Ca.out.mono ?_
      rintro e wb ⟨rfl, hBb⟩
      have HB := Lib.hid (HB.out.trans (hBb.mono HB.out.size))
      have Cb := Lib.hid (permRight_any R7 c7 (idn p.length) wb (I7.out.later hBb))
      rw [decide_eq_true (idn_ok hp20)] at Cb
      clear Ca hBb
      go_wp2_with fail
      refine Cb.out.mono ?_
      rintro e wc ⟨rfl, hBc⟩
      have HB := Lib.hid (HB.out.trans (hBc.mono HB.out.size))
      clear Cb hBc
      go_wp2
      go_ret
      exact ⟨rfl, HB.out⟩
    · have e2 : thenR q r = ([], 1) := if_neg h2
      rw [e2]
      clear e2 h2 I3
      unfold ltup
      simp only []
      go_wp2_with fail
      refine C3.out.mono ?_
      rintro e w4 ⟨R4, c4, rfl, hI4, hB4⟩
      have HB := Lib.hid (HB.out.trans (hB4.mono HB.out.size))
      clear C3 hB4 hI4
      unfold ltup
      go_wp2
      go_ret
      exact ⟨rfl, HB.out⟩
  · have e1 : thenR p q = ([], 1) := if_neg h1
    rw [e1]
    clear e1 h1 I2
    unfold ltup
    simp only []
    go_wp2_with fail
    refine C2.out.mono ?_
    rintro e w3 ⟨R3, c3, rfl, hI3, hB3⟩
    have HB := Lib.hid (HB.out.trans (hB3.mono HB.out.size))
    have C3 := Lib.hid (permBack_any A ca p w3 (HP.out.later HB.out))
    clear C2 hB3 hI3
    obtain ⟨⟨m1, m2⟩, hm⟩ : ∃ m, thenR q r = m := ⟨_, rfl⟩
    rw [hm]
    clear hm
    unfold ltup
    simp only []
    go_wp2_with fail
    refine C3.out.mono ?_
    rintro e w4 ⟨R4, c4, rfl, hI4, hB4⟩
    have HB := Lib.hid (HB.out.trans (hB4.mono HB.out.size))
    clear C3 hB4 hI4
    obtain ⟨⟨n1, n2⟩, hm⟩ : ∃ m, backR p = m := ⟨_, rfl⟩
    rw [hm]
    clear hm
    unfold ltup
    simp only []
    go_wp2
    go_ret
    exact ⟨rfl, HB.out⟩
end Go.Proofs.Ytbchdnmpohnkiaa
