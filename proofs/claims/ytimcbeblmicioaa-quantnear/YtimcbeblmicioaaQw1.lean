/- lotdrawerkeep.alive15, out of contracts. -/
import Derived.Test.YtimcbeblmicioaaQw0
namespace Go.Proofs.Ytimcbeblmicioaa
open Go.RowKit Go.Deep

instance (S : List Rk) (i : Nat) : Decidable (qE S i) := by unfold qE; infer_instance
instance (p : Int) (S : List Rk) (k : Nat) : Decidable (qP p S k) := by unfold qP; infer_instance
instance (p : Int) (S : List Rk) (i : Nat) : Decidable (qOver p S i) := by unfold qOver; infer_instance
instance (p : Int) (S : List Rk) : Decidable (QR p S) := decidable_of_iff _ QR_iff.symm
/-- The same, so that it can be reckoned. -/
def qaddD (p : Int) (S : List Rk) (x : Int) : List Rk × Int :=
  if QR p S then (if S.length < 400 ∧ qtot S < 1099511627776 then (qadd p S x, 0) else ([], 4)) else ([], 1)
theorem qaddD_eq (p : Int) (S : List Rk) (x : Int) : qaddC p S x = qaddD p S x := by
  unfold qaddC qaddD
  by_cases h : QR p S
  · rw [if_pos h, if_pos h]
  · rw [if_neg h, if_neg h]
def qallE (p : Int) : List Rk → List Int → List Rk × Int
  | S, [] => (S, 0)
  | S, x :: xs => if (qaddD p S x).2 = 0 then qallE p (qaddD p S x).1 xs else ([], (qaddD p S x).2)
theorem qallE_eq (p : Int) : ∀ (xs : List Int) (S : List Rk), qallG p S xs = qallE p S xs
  | [], S => rfl
  | x :: xs, S => by
    unfold qallG qallE
    rw [qaddD_eq]
    by_cases h : (qaddD p S x).2 = 0
    · rw [if_pos h, if_pos h]; exact qallE_eq p xs _
    · rw [if_neg h, if_neg h]
def qfindD (p : Int) (S : List Rk) (place : Int) : Int × Int :=
  if QR p S then (if 1 ≤ place ∧ place ≤ qtot S then ((rat S (qbest (qfk place S) S.length)).n, 0) else (0, 3)) else (0, 1)
theorem qfindD_eq (p : Int) (S : List Rk) (place : Int) : qfindC p S place = qfindD p S place := by
  unfold qfindC qfindD
  by_cases h : QR p S
  · rw [if_pos h, if_pos h]
  · rw [if_neg h, if_neg h]
def L15 : List Rk := [⟨1, 1, 0⟩, ⟨3, 2, 0⟩, ⟨8, 1, 2⟩, ⟨9, 3, 0⟩]
theorem al15_all : qallC 4 [5, 1, 9, 3, 7, 2, 8] = (L15, 0) := by
  unfold qallC
  rw [if_pos (by decide), qallE_eq]
  decide +kernel
theorem al15_f1 : qfindC 4 L15 1 = (1, 0) := by rw [qfindD_eq]; decide +kernel
theorem al15_f7 : qfindC 4 L15 7 = (9, 0) := by rw [qfindD_eq]; decide +kernel
theorem al15_r : QR 4 L15 := by decide +kernel
theorem al15_g : ∀ r ∈ L15, 0 ≤ r.g := by decide +kernel
theorem al15_t : qtot L15 = 7 := by decide +kernel
theorem al15_l : L15.length = 4 := by decide +kernel
theorem ip_new7 (w : World) : IP (w.alloc (.cells #[.int .i64 5, .int .i64 1, .int .i64 9, .int .i64 3, .int .i64 7, .int .i64 2, .int .i64 8] 3)) (some ⟨w.heap.size, 0, none⟩) 7 [5, 1, 9, 3, 7, 2, 8] := ip_lit w [5, 1, 9, 3, 7, 2, 8] (by simp)

set_option maxRecDepth 100000 in
set_option maxHeartbeats 2000000 in
theorem alive15_any (KF : CtFind) (KL : CtAll) (KR : CtRight) (KC : CtCount) (w : World) : Calls Try.prog 18 #[] w fun e w' => e = .returned (.bool true) ∧ Below w.heap.size w w' := by
  have C1 := Lib.hid (KL 4 _ 7 [5, 1, 9, 3, 7, 2, 8] _ (ip_new7 w))
  unfold RPost at C1
  rw [al15_all] at C1
  dsimp only at C1
  have C2 : Hid (∀ (A : Option Addr) (ca : Nat) (w : World), RP w A ca L15 → Calls Try.prog 10 #[.int .i64 4, .slice A L15.length ca, .int .i64 1] w fun e w' => e = .returned (.tuple #[.int .i64 1, .int .i64 0]) ∧ Below w.heap.size w w') := fun A ca w h => by
    have := KF 4 A ca L15 1 w h
    rw [al15_f1] at this
    exact this
  have C3 : Hid (∀ (A : Option Addr) (ca : Nat) (w : World), RP w A ca L15 → Calls Try.prog 10 #[.int .i64 4, .slice A L15.length ca, .int .i64 7] w fun e w' => e = .returned (.tuple #[.int .i64 9, .int .i64 0]) ∧ Below w.heap.size w w') := fun A ca w h => by
    have := KF 4 A ca L15 7 w h
    rw [al15_f7] at this
    exact this
  have C4 : Hid (∀ (A : Option Addr) (ca : Nat) (w : World), RP w A ca L15 → Calls Try.prog 16 #[.slice A L15.length ca] w fun e w' => e = .returned (.int .i64 7) ∧ Below w.heap.size w w') := fun A ca w h => by
    have := KC A ca L15 w h al15_g (by rw [al15_t]; decide)
    rw [al15_t] at this
    exact this
  have C5 : Hid (∀ (A : Option Addr) (ca : Nat) (w : World), RP w A ca L15 → Calls Try.prog 13 #[.int .i64 4, .slice A L15.length ca] w fun e w' => e = .returned (.bool true) ∧ Below w.heap.size w w') := fun A ca w h => KR 4 A ca L15 w true h ⟨fun _ => al15_r, fun _ => rfl⟩
  have HB0 : Hid (Below w.heap.size w (w.alloc (.cells #[.int .i64 5, .int .i64 1, .int .i64 9, .int .i64 3, .int .i64 7, .int .i64 2, .int .i64 8] 3))) := (Below.refl _ _).alloc (Nat.le_refl _) _
  generalize L15.length = n at *
  clear KF KL KR KC
  go_enter Try.func18, Try.ntmps18
  go_wp2_with fail
  refine C1.out.mono ?_
  rintro e w1 ⟨R, cr, rfl, hP, hb⟩
  have HP1 := Lib.hid hP
  have HB1 := Lib.hid (HB0.out.trans (hb.mono HB0.out.size))
  clear hP hb C1 HB0
  go_wp2_with fail
  refine (C2.out _ _ _ HP1.out).mono ?_
  rintro e w2 ⟨rfl, hb⟩
  have HP2 := Lib.hid (HP1.out.later hb)
  have HB2 := Lib.hid (HB1.out.trans (hb.mono HB1.out.size))
  clear hb HP1 HB1 C2
  go_wp2_with fail
  refine (C3.out _ _ _ HP2.out).mono ?_
  rintro e w3 ⟨rfl, hb⟩
  have HP3 := Lib.hid (HP2.out.later hb)
  have HB3 := Lib.hid (HB2.out.trans (hb.mono HB2.out.size))
  clear hb HP2 HB2 C3
  go_wp2_with fail
  refine (C4.out _ _ _ HP3.out).mono ?_
  rintro e w4 ⟨rfl, hb⟩
  have HP4 := Lib.hid (HP3.out.later hb)
  have HB4 := Lib.hid (HB3.out.trans (hb.mono HB3.out.size))
  clear hb HP3 HB3 C4
  go_wp2_with fail
  refine (C5.out _ _ _ HP4.out).mono ?_
  rintro e w5 ⟨rfl, hb⟩
  have HB5 := Lib.hid (HB4.out.trans (hb.mono HB4.out.size))
  clear hb HP4 HB4 C5
  go_wp2
  go_ret
  exact ⟨rfl, HB5.out⟩
end Go.Proofs.Ytimcbeblmicioaa
