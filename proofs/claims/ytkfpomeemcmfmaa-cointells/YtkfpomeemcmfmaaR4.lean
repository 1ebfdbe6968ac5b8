/- lotdrawerref.COf. -/
import Derived.Test.YtkfpomeemcmfmaaR3
import Derived.Test.YtkfpomeemcmfmaaC3
namespace Go.Proofs.Ytkfpomeemcmfmaa
open Go.RowKit

set_option maxHeartbeats 4000000 in
theorem cof_any (A B : Option Addr) (ca cb : Nat) (t : List Bool) (l : List Int) (w : World) (ht : TP w A ca t) (hsm : t.length ≤ 140737488351232) (hl : IP w B cb l) :
    Calls Try.prog 14 #[.slice A t.length ca, .slice B l.length cb] w fun e w' => e = .returned (tup (off t l)) ∧ Below w.heap.size w w' := by
  have hlt := ht.short
  have hle := ht.le
  have hcap := ht.cap
  have hcb := hl.cap
  have hlb := hl.le
  have HT := Lib.hid ht
  have HL := Lib.hid hl
  have H := Lib.hid hl.il
  clear hl ht
  go_enter Try.func14, Try.ntmps14
  go_wp2
  go_loop [7, 17] (fun sv iv => ∃ s i : Nat, i ≤ l.length ∧ s ≤ 1099511627776 ∧ sv = .int .i64 s ∧ iv = .int .i64 i ∧ totF 0 l = totF s (l.drop i)) (fun _ iv => l.length - (intOf iv).toNat)
  case atStart => exact ⟨0, 0, Nat.zero_le _, by omega, rfl, rfl, by simp⟩
  case round =>
    obtain ⟨s, i, hi, hs, rfl, rfl, hT⟩ := hrel
    have HTo := Lib.hid hT
    clear hT
    by_cases hil : i < l.length
    · obtain ⟨b, off', rfl, _, hc⟩ := H.out.at (by omega)
      have ck := hc i hil
      clear hc
      have hd := idrop_cons hil
      generalize l.getD i 0 = x at *
      by_cases hx : x < 0
      · have E : Hid (off t l = (0, 0, 2)) := by
          show off t l = (0, 0, 2)
          unfold off; rw [HTo.out, hd, totF_bad (.inl hx)]
        clear HTo hd
        go_wp2
        go_ret3
        exact ⟨by rw [E.out]; rfl, Below.refl _ _⟩
      · by_cases hx2 : 1099511627776 - (s : Int) < x
        · have E : Hid (off t l = (0, 0, 2)) := by
            show off t l = (0, 0, 2)
            unfold off; rw [HTo.out, hd, totF_bad (.inr hx2)]
          clear HTo hd
          go_wp2
          go_ret3
          exact ⟨by rw [E.out]; rfl, Below.refl _ _⟩
        · obtain ⟨y, rfl⟩ : ∃ y : Nat, x = y := ⟨x.toNat, by omega⟩
          have E : Hid (totF 0 l = totF (s + y) (l.drop (i + 1))) := HTo.out.trans (by rw [hd, totF_ok (by omega)]; simp)
          clear HTo hd
          go_wp2
          go_round
          case rel => exact ⟨s + y, i + 1, by omega, by omega, by go_num, by go_num, E.out⟩
          case measure => simp [intOf]; omega
    · have E0 : Hid (totF 0 l = some s) := HTo.out.trans (by rw [List.drop_eq_nil_of_le (by omega)]; rfl)
      obtain rfl : i = l.length := by omega
      clear HTo H
      by_cases h0 : s = 0
      · subst h0
        have E : Hid (off t l = (0, 0, 3)) := by
          show off t l = (0, 0, 3)
          unfold off; rw [E0.out]; rfl
        clear E0
        go_wp2
        go_ret3
        exact ⟨by rw [E.out]; rfl, Below.refl _ _⟩
      · obtain ⟨ws, rfl, hsw, _⟩ := totF_some E0.out (by omega)
        rw [Nat.zero_add] at hsw
        have E2 := Lib.hid (off_good (t := t) (ws := ws) (by omega) (by rw [E0.out, hsw]))
        rw [← hsw] at E2
        have S0 := Lib.hid hsw.symm
        rw [nis_len] at *
        have q0 : decide ((s : Int) < 1) = false := decide_eq_false (by omega)
        have h0' : 0 < s := by omega
        clear E0 hsw
        go_wp2
        go_loopw [7, 10, 11] (fun lv cv iv wr => ∃ s' c i : Nat, i < ws.length ∧ c ≤ t.length ∧ 0 < s' ∧ s' ≤ 1099511627776 ∧ lv = .int .i64 s' ∧ cv = .int .i64 c ∧ iv = .int .i64 i ∧ (ws.drop i).sum = s' ∧ ofF ws s t = tsh i c (ofF (ws.drop i) s' (t.drop c)) ∧ Below w.heap.size w wr) (fun _ _ iv _ => ws.length - (intOf iv).toNat)
        case atStart =>
          refine ⟨s, 0, 0, ?_, Nat.zero_le _, h0', hs, rfl, rfl, rfl, S0.out, by simp [tsh_zero], Below.refl _ _⟩
          have := S0.out
          cases ws with
          | nil => simp at this; omega
          | cons => simp
        case round =>
          obtain ⟨s', c, i, hi, hc, hs, hs2, rfl, rfl, rfl, hS, hT, hBr⟩ := hrel
          have HS := Lib.hid hS
          have HF := Lib.hid hT
          have HBr := Lib.hid hBr
          obtain ⟨b, off', rfl, hbl, hcell⟩ := (HL.out.il.later hBr).at (by rw [nis_len]; omega)
          have e0 := hcell i (by rw [nis_len]; exact hi)
          rw [nis_at hi] at e0
          obtain ⟨A', hA', hTP⟩ := tail_tp (HT.out.later hBr) hc
          have CT := Lib.hid (ctoss_any A' (ca - c) (t.drop c) ((ws.getD i 0 : Nat) : Int) s' wr.drew (hTP.later (Below.refl _ wr).drew) (by rw [List.length_drop]; omega))
          have d0 : wr.drew.cell? ⟨b, off' + i, none⟩ = some (.int .i64 ((ws.getD i 0 : Nat) : Int)) := e0
          have D := Lib.hid (And.intro (show b < wr.drew.heap.size from hbl) d0)
          have hdr := ndrop_cons hi
          have hxs : (ws.getD i 0) ≤ s' ∧ (ws.drop (i + 1)).sum = s' - ws.getD i 0 := by
            rw [hdr, List.sum_cons] at hS; omega
          obtain ⟨hx, hS1⟩ := hxs
          have HS1 := Lib.hid hS1
          have HD := Lib.hid hdr
          rw [List.length_drop, toss_good (by omega) (by omega) hx] at CT
          unfold ftup frac at CT
          clear hS hT hBr hcell hTP d0 hdr hS1
          generalize ws.getD i 0 = x at *
          have HG : Hid (∀ w2, Below wr.drew.heap.size wr.drew w2 → Below w.heap.size w w2) := fun w2 hb => (HBr.out.drew).trans (hb.mono (by show w.heap.size ≤ wr.heap.size; exact HBr.out.size))
          cases hx2 : tosG x s' (t.drop c) with
          | none =>
            have E : Hid (ofF ws s t = none) := HF.out.trans (by rw [HD.out, ofF_none hx2]; rfl)
            rw [hx2] at CT
            unfold cans at CT
            clear hx2 HF HD HS HS1
            go_wp2_with fail
            go_region_held3 (fun w' => w'.cell? ⟨b, off' + i, none⟩ = some (.int .i64 (x : Int))) (go_keep)
              (first | (go_at_call 10; refine CT.out.mono ?_; rintro e w2 ⟨rfl, hb2⟩; have f0 := (hb2.cell (p := ⟨b, off' + i, none⟩) D.out.1).trans D.out.2; have HB2 := Lib.hid hb2; clear hb2))
            have HB3 := Lib.hid (HG.out w2 HB2.out)
            clear HB2 HG D CT HBr
            go_wp2
            go_ret3
            exact ⟨by rw [E2.out, E.out]; rfl, HB3.out⟩
          | some p =>
            obtain ⟨y, u⟩ := p
            have hu := tosG_le hx2
            rw [List.length_drop] at hu
            rw [hx2] at CT
            unfold cans at CT
            cases y with
            | true =>
              have E : Hid (ofF ws s t = some (i, c + u)) := HF.out.trans (by rw [HD.out, ofF_yes hx2]; rfl)
              clear hx2 HF HD HS HS1
              go_wp2_with fail
              go_region_held3 (fun w' => w'.cell? ⟨b, off' + i, none⟩ = some (.int .i64 (x : Int))) (go_keep)
                (first | (go_at_call 10; refine CT.out.mono ?_; rintro e w2 ⟨rfl, hb2⟩; have f0 := (hb2.cell (p := ⟨b, off' + i, none⟩) D.out.1).trans D.out.2; have HB2 := Lib.hid hb2; clear hb2))
              have HB3 := Lib.hid (HG.out w2 HB2.out)
              clear HB2 HG D CT HBr
              go_wp2
              go_ret3
              exact ⟨by rw [E2.out, E.out]; rfl, HB3.out⟩
            | false =>
              have hne := tosG_no hx2
              have E : Hid (ofF ws s t = tsh (i + 1) (c + u) (ofF (ws.drop (i + 1)) (s' - x) (t.drop (c + u)))) := HF.out.trans (by rw [HD.out, ofF_no hx2, tsh_tsh, List.drop_drop])
              have hi2 : i + 1 < ws.length := by
                rcases Nat.lt_or_ge (i + 1) ws.length with h | h
                · exact h
                · have := HS1.out
                  rw [List.drop_eq_nil_of_le h] at this
                  simp at this
                  omega
              clear hx2 HF HD HS
              go_wp2_with fail
              go_region_held3 (fun w' => w'.cell? ⟨b, off' + i, none⟩ = some (.int .i64 (x : Int))) (go_keep)
                (first | (go_at_call 10; refine CT.out.mono ?_; rintro e w2 ⟨rfl, hb2⟩; have f0 := (hb2.cell (p := ⟨b, off' + i, none⟩) D.out.1).trans D.out.2; have HB2 := Lib.hid hb2; clear hb2))
              have HB3 := Lib.hid (HG.out w2 HB2.out)
              clear HB2 HG D CT HBr
              go_wp2
              go_roundw
              case rel => exact ⟨s' - x, c + u, i + 1, hi2, by omega, by omega, by omega, by go_num, by go_num, by go_num, HS1.out, E.out, HB3.out⟩
              case measure => simp [intOf]; omega
end Go.Proofs.Ytkfpomeemcmfmaa
