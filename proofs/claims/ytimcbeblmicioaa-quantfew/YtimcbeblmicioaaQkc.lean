/- quant.add, quant.Add. -/
import Derived.Test.YtimcbeblmicioaaQka
import Derived.Test.YtimcbeblmicioaaQkb
import Derived.Test.YtimcbeblmicioaaQk4
namespace Go.Proofs.Ytimcbeblmicioaa
open Go.RowKit Go.Deep

/-- Entries of the call's own and an error. -/
def APost (B : Nat) (w : World) (r : List Rk × Int) (e : Ending) (w' : World) : Prop := ∃ v', e = .returned (.tuple #[v', .int .i64 r.2]) ∧ OR w' B v' r.1 ∧ Below B w w'
theorem apost_nil {B : Nat} {w w' : World} (k : Int) (hb : Below B w w') : ∃ v', Ending.returned (.tuple #[.slice none 0 0, .int .i64 k]) = .returned (.tuple #[v', .int .i64 (([], k) : List Rk × Int).2]) ∧ OR w' B v' (([], k) : List Rk × Int).1 ∧ Below B w w' := ⟨.slice none 0 0, rfl, OR.nil _ _, hb⟩
theorem rpostQ_nil {w w' : World} (k : Int) (hb : Below w.heap.size w w') : ∃ R cr, Ending.returned (.tuple #[.slice none 0 0, .int .i64 k]) = .returned (.tuple #[.slice R (([], k) : List Rk × Int).1.length cr, .int .i64 (([], k) : List Rk × Int).2]) ∧ RP w' R cr (([], k) : List Rk × Int).1 ∧ Below w.heap.size w w' := ⟨none, 0, rfl, RP.nil w', hb⟩
theorem qaddC_ok {p : Int} {S : List Rk} (h : QR p S) (x : Int) : qaddC p S x = if S.length < 400 ∧ qtot S < 1099511627776 then (qadd p S x, 0) else ([], 4) := by
  unfold qaddC
  rw [if_pos h]
set_option maxRecDepth 100000 in
set_option maxHeartbeats 2000000 in
theorem addS_any (p : Int) (B : Nat) (v : Value) (S : List Rk) (x : Int) (w : World) (h : OR w B v S) (hR : QR p S) (hBw : B ≤ w.heap.size) :
    Calls Try.prog 24 #[.int .i64 p, v, .int .i64 x] w (APost B w (qaddC p S x)) := by
  obtain ⟨R, cap, rfl, hP⟩ := h.rp
  have hle := hP.le
  have hcap := hP.cap
  have hl := hR.len
  have ht := hR.tot
  have hg : ∀ r ∈ S, 0 ≤ r.g := fun r hr => by have := (hR.each r hr).1; omega
  have ht0 := qtot_nonneg hg
  have hp1 := hR.p1
  have C1 := Lib.hid (count_any R cap S w hP hg (by omega))
  have HO := Lib.hid h
  have E := Lib.hid (qaddC_ok hR x)
  have HR := Lib.hid hR
  clear h hP hg hR
  unfold APost
  by_cases h1 : S.length = 400
  · rw [E.out, if_neg (by omega)]
    clear E
    rw [h1] at C1 hle ⊢
    clear h1
    go_enter Try.func24, Try.ntmps24
    go_wp2_with fail
    refine C1.out.mono ?_
    rintro e w1 ⟨rfl, hb⟩
    have HB := Lib.hid (hb.mono hBw)
    clear hb
    go_wp2
    go_ret2
    exact apost_nil 4 HB.out
  · have hi1 : (((S.length : Nat) : Int) == 400) = false := by rw [beq_eq_false_iff_ne]; omega
    by_cases h2 : qtot S = 1099511627776
    · rw [E.out, if_neg (by omega)]
      clear E
      rw [h2] at C1
      clear h2
      go_enter Try.func24, Try.ntmps24
      go_wp2_with fail
      refine C1.out.mono ?_
      rintro e w1 ⟨rfl, hb⟩
      have HB := Lib.hid (hb.mono hBw)
      clear hb
      go_wp2
      go_ret2
      exact apost_nil 4 HB.out
    · rw [E.out, if_pos (by omega)]
      have hi2 : (qtot S == 1099511627776) = false := by rw [beq_eq_false_iff_ne]; exact h2
      have HQA : Hid (qadd p S x = qcmp (2 * (qtot S + 1) / p) (qins S x)) := rfl
      have C2 := Lib.hid (fun W => boundQ_any p (qtot S + 1) hp1 (by omega) (by omega) W)
      have C3 : Hid (∀ W, OR W B (.slice R S.length cap) S → B ≤ W.heap.size → Calls Try.prog 38 #[.slice R S.length cap, .int .i64 x] W fun e w' => ∃ v', e = .returned v' ∧ OR w' B v' (qins S x) ∧ Below B W w') := fun W h1 h2 => insertQ_any B _ S x W h1 HR.out.srt HR.out.each hl h2
      have htI := qins_tot HR.out.srt x
      have hlI := qins_len HR.out.srt x
      have hbI := qins_bd HR.out x
      have C4 : Hid (∀ v' W, OR W B v' (qins S x) → Calls Try.prog 37 #[.int .i64 (2 * (qtot S + 1) / p), v'] W fun e w' => ∃ v2, e = .returned v2 ∧ OR w' B v2 (qcmp (2 * (qtot S + 1) / p) (qins S x)) ∧ Below B W w') := fun v' W h => compress_any B v' (qins S x) _ W h (by omega) hbI (by omega) (by omega)
      rw [← HQA.out] at C4
      have HW : Hid (∀ W, Below w.heap.size w W → OR W B (.slice R S.length cap) S ∧ Below B w W ∧ B ≤ W.heap.size) := fun W hb => ⟨HO.out.later hb, hb.mono hBw, by have := hb.size; omega⟩
      clear E HQA htI hlI hbI HO HR
      generalize qins S x = I at *
      generalize qadd p S x = RES at *
      generalize 2 * (qtot S + 1) / p = bd at *
      generalize qtot S = tot at *
      go_enter Try.func24, Try.ntmps24
      go_wp2_with fail
      refine C1.out.mono ?_
      rintro e w1 ⟨rfl, hb⟩
      obtain ⟨hO1, hB1, hs1⟩ := HW.out w1 hb
      have HO1 := Lib.hid hO1
      have HB1 := Lib.hid hB1
      have HS1 := Lib.hid hs1
      clear hb hO1 hB1 hs1 HW C1
      go_wp2_with fail
      refine (C2.out _).mono ?_
      rintro e w2 ⟨rfl, rfl⟩
      clear C2
      go_wp2_with fail
      refine (C3.out _ HO1.out HS1.out).mono ?_
      rintro e w3 ⟨v3, rfl, hO3, hb3⟩
      have C5 := Lib.hid (C4.out v3 w3 hO3)
      have HB3 := Lib.hid (HB1.out.trans hb3)
      clear hO3 hb3 C3 C4 HO1 HB1 HS1
      go_wp2_with fail
      refine C5.out.mono ?_
      rintro e w4 ⟨v4, rfl, hO4, hb4⟩
      have HO4 := Lib.hid hO4
      have HB4 := Lib.hid (HB3.out.trans hb4)
      clear hO4 hb4 C5 HB3
      go_wp2
      go_ret2
      exact ⟨v4, rfl, HO4.out, HB4.out⟩

theorem apost_rpost {w w1 w' : World} {r : List Rk × Int} {e : Ending} (h : APost w.heap.size w1 r e w') (hb : Below w.heap.size w w1) : RPost w r e w' := by
  obtain ⟨v', rfl, hO, hb2⟩ := h
  obtain ⟨R, cap, rfl, hP⟩ := hO.rp
  exact ⟨R, cap, rfl, hP, hb.trans hb2⟩
set_option maxRecDepth 100000 in
set_option maxHeartbeats 2000000 in
theorem addQ_any (p : Int) (A : Option Addr) (ca : Nat) (S : List Rk) (x : Int) (w : World) (hS : RP w A ca S) :
    Calls Try.prog 8 #[.int .i64 p, .slice A S.length ca, .int .i64 x] w (RPost w (qaddC p S x)) := by
  have hle := hS.le
  have hcap := hS.cap
  have HS := Lib.hid hS
  have C1 : Hid (∀ b0 : Bool, (b0 = true ↔ QR p S) → Calls Try.prog 13 #[.int .i64 p, .slice A S.length ca] w fun e w2 => e = .returned (.bool b0) ∧ Below w.heap.size w w2) := fun b0 h0 => right_any p A ca S w b0 hS h0
  clear hS
  by_cases hR : QR p S
  · have CR := Lib.hid (C1.out true ⟨fun _ => hR, fun _ => rfl⟩)
    have CC : Hid (∀ W, Below w.heap.size w W → Calls Try.prog 25 #[.slice A S.length ca] W fun e w' => ∃ v, e = .returned v ∧ OR w' w.heap.size v S ∧ Below w.heap.size W w') := fun W hb => (cloneR_any A ca S W (HS.out.later hb) hR.len).mono fun e w' ⟨v, h1, h2, h3⟩ => ⟨v, h1, h2.lower hb.size, h3.mono hb.size⟩
    have CA : Hid (∀ v W, OR W w.heap.size v S → w.heap.size ≤ W.heap.size → Calls Try.prog 24 #[.int .i64 p, v, .int .i64 x] W (APost w.heap.size W (qaddC p S x))) := fun v W h1 h2 => addS_any p _ v S x W h1 hR h2
    clear hR C1 HS
    generalize qaddC p S x = RES at *
    obtain ⟨rs, re⟩ := RES
    unfold APost at CA
    dsimp only at CA
    go_enter Try.func8, Try.ntmps8
    go_wp2_with fail
    refine CR.out.mono ?_
    rintro e w1 ⟨rfl, hb⟩
    have HB1 := Lib.hid hb
    clear hb CR
    go_wp2_with fail
    refine (CC.out _ HB1.out).mono ?_
    rintro e w2 ⟨v2, rfl, hO2, hb2⟩
    have HB2 := Lib.hid (HB1.out.trans hb2)
    have CX := Lib.hid (CA.out v2 w2 hO2 HB2.out.size)
    clear hO2 hb2 HB1 CC CA
    go_wp2_with fail
    refine CX.out.mono ?_
    rintro e w3 ⟨v3, rfl, hO3, hb3⟩
    obtain ⟨R, cap, rfl, hP⟩ := hO3.rp
    have HP := Lib.hid hP
    have HB3 := Lib.hid (HB2.out.trans hb3)
    clear hO3 hP hb3 HB2 CX
    go_wp2
    go_ret2
    exact ⟨R, cap, rfl, HP.out, HB3.out⟩
  · have CR := Lib.hid (C1.out false ⟨(fun h => by cases h), fun h => absurd h hR⟩)
    have E : Hid (qaddC p S x = ([], 1)) := by show _ = _; unfold qaddC; rw [if_neg hR]
    rw [E.out]
    clear hR C1 E
    go_enter Try.func8, Try.ntmps8
    go_wp2_with fail
    refine CR.out.mono ?_
    rintro e w1 ⟨rfl, hb⟩
    have HB1 := Lib.hid hb
    clear hb CR
    go_wp2
    go_ret2
    exact rpostQ_nil 1 HB1.out
end Go.Proofs.Ytimcbeblmicioaa
