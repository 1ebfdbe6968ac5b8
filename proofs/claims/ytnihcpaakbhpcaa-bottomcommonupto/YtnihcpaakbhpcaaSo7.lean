/- slices.siftDownOrdered of words (made by a program). -/
import Derived.Test.YtnihcpaakbhpcaaSo6
namespace Go.Proofs.Ytnihcpaakbhpcaa
open Go.RowKit Go.Deep

set_option maxRecDepth 100000 in
set_option maxHeartbeats 8000000 in
theorem sift_any (B g cap n lo hi f : Nat) (l : List W64) (w : World) (hO : OU w B (.slice (some ⟨g, 0, none⟩) n cap) l) (hn : l.length = n) (hB : B ≤ g) (hlo : lo ≤ n) (hf : f + hi ≤ n) (hs : n ≤ 17592186044416) (hh : Hp l f (lo + 1) hi) :
    Calls Try.prog 81 #[.slice (some ⟨g, 0, none⟩) n cap, .int .i64 lo, .int .i64 hi, .int .i64 f] w (SPost w B (.slice (some ⟨g, 0, none⟩) n cap) f (f + hi) l fun l' => Hp l' f lo hi) := by
  have HO := Lib.hid hO
  have HN := Lib.hid hn
  have HGB := Lib.hid hB
  have HH := Lib.hid (HpX.start hh)
  clear hO hn hB hh
  go_enter Try.func81, Try.ntmps81
  go_wp2_with fail
  go_loopw [8] (fun rv wr => ∃ (r : Nat) (l' : List W64), lo ≤ r ∧ (r < hi ∨ r = lo) ∧ rv = .int .i64 r ∧ Sw f (f + hi) l l' ∧ HpX l' f lo hi r ∧ OU wr B (.slice (some ⟨g, 0, none⟩) n cap) l' ∧ Below B w wr) (fun rv _ => hi - (intOf rv).toNat)
  case atStart => exact ⟨lo, l, Nat.le_refl _, by omega, rfl, .refl _, HH.out, HO.out, Below.refl _ _⟩
  case round =>
    clear HO HH
    obtain ⟨r, l1, hr1, hr2, rfl, hS, hX, hO1, hb1⟩ := hrel
    have HS := Lib.hid hS
    have HX := Lib.hid hX
    have HO1 := Lib.hid hO1
    have HB1 := Lib.hid hb1
    have HL := Lib.hid (hS.len.trans HN.out)
    clear hS hX hO1 hb1
    obtain ⟨k, hk⟩ : ∃ k : Nat, k = 2 * r + 1 := ⟨_, rfl⟩
    obtain ⟨m, hm⟩ : ∃ m : Nat, m = 2 * r + 2 := ⟨_, rfl⟩
    obtain ⟨fk, hfk⟩ : ∃ fk : Nat, fk = f + k := ⟨_, rfl⟩
    obtain ⟨fm, hfm⟩ : ∃ fm : Nat, fm = f + m := ⟨_, rfl⟩
    obtain ⟨fr, hfr⟩ : ∃ fr : Nat, fr = f + r := ⟨_, rfl⟩
    have HKN := Lib.hid (show k = 2 * r + 1 ∧ m = 2 * r + 2 ∧ fk = f + k ∧ fm = f + m ∧ fr = f + r from ⟨hk, hm, hfk, hfm, hfr⟩)
    have a1 : 2 * (r : Int) + 1 = (k : Int) := by omega
    have a2 : (k : Int) + 1 = (m : Int) := by omega
    have a3 : (f : Int) + (k : Int) = (fk : Int) := by omega
    have a4 : (fk : Int) + 1 = (fm : Int) := by omega
    have a5 : (f : Int) + (r : Int) = (fr : Int) := by omega
    have a6 : (f : Int) + (m : Int) = (fm : Int) := by omega
    have b1 : IntKind.i64.wrap (k : Int) = (k : Int) := IntWalk.i64_in _ (by omega)
    have b2 : IntKind.i64.wrap (m : Int) = (m : Int) := IntWalk.i64_in _ (by omega)
    have b3 : IntKind.i64.wrap (fk : Int) = (fk : Int) := IntWalk.i64_in _ (by omega)
    have b4 : IntKind.i64.wrap (fm : Int) = (fm : Int) := IntWalk.i64_in _ (by omega)
    have b5 : IntKind.i64.wrap (fr : Int) = (fr : Int) := IntWalk.i64_in _ (by omega)
    have b6 : IntKind.i64.wrap (2 * (r : Int)) = 2 * (r : Int) := IntWalk.i64_in _ (by omega)
    by_cases hend : hi ≤ k
    · have d0 : decide ((hi : Int) ≤ (k : Int)) = true := decide_eq_true (by omega)
      have HD := Lib.hid (HX.out.done (fun c h1 h2 => by omega))
      clear hk hm hfk hfm hfr
      go_wp2
      go_end0
      exact ⟨l1, rfl, HS.out, HD.out, HO1.out, HB1.out⟩
    · have d0 : decide ((hi : Int) ≤ (k : Int)) = false := decide_eq_false (by omega)
      have c1 := HO1.out.at (i := fk) (by have := HL.out; omega)
      have c2 := HO1.out.at (i := fr) (by have := HL.out; omega)
      have i1 : (fk : Int) < (n : Int) := by omega
      have i2 : (fr : Int) < (n : Int) := by omega
      have hmo : m < hi → fm < n := fun h => by omega
      have hfm2 : fm = fk + 1 := by omega
      have HFM := Lib.hid hfm2
      clear hk hm hfk hfm hfr hfm2
      by_cases hmh : m < hi
      · have c3 := HO1.out.at (i := fm) (by have := HL.out; have := hmo hmh; omega)
        have i3 : (fm : Int) < (n : Int) := by have := hmo hmh; omega
        have d1 : decide ((m : Int) < (hi : Int)) = true := decide_eq_true (by omega)
        by_cases hcmp : ky l1 fk < ky l1 fm
        · have t1 : decide ((l1.getD fk 0).toNat < (l1.getD fm 0).toNat) = true := decide_eq_true hcmp
          have HG : Hid (∀ c, c = 2 * r + 1 ∨ c = 2 * r + 2 → c < hi → ky l1 (f + c) ≤ ky l1 (f + m)) := fun c h1 h2 => by
            obtain ⟨e1, e2, e3, e4, e5⟩ := HKN.out
            have E1 : ky l1 (f + (2 * r + 1)) = ky l1 fk := by rw [e3, e1]
            have E2 : ky l1 (f + (2 * r + 2)) = ky l1 fm := by rw [e4, e2]
            have E3 : f + m = fm := by omega
            rw [E3]
            rcases h1 with rfl | rfl
            · omega
            · omega
          clear hcmp
          have hfc : fm = f + m := by have := HKN.out; omega
          have HFC := Lib.hid hfc
          clear hfc
          by_cases hlt : ky l1 fr < ky l1 fm
          · have HX2 := Lib.hid (HX.out.step (ch := m) (by omega) (by have := HKN.out; omega) (by omega) (by have := HL.out; omega) (by rw [← HFC.out, ← HKN.out.2.2.2.2]; exact hlt) HG.out)
            rw [← HFC.out, ← HKN.out.2.2.2.2] at HX2
            have HS2 := Lib.hid (HS.out.step (i := fr) (j := fm) (by have := HKN.out; omega) (by have := HKN.out; omega) (by have := HKN.out; omega) (by have := HKN.out; omega) (by have := HL.out; omega))
            have HF := Lib.hid (fun W (hW : OU W B (.slice (some ⟨g, 0, none⟩) n cap) l1) => OU.swapF (w := W) (i := fr) (j := fm) hW (by have := HKN.out; have := HL.out; omega) (by have := HKN.out; have := HL.out; omega))
            have HO3 := Lib.hid (fun W (hW : OU W B (.slice (some ⟨g, 0, none⟩) n cap) l1) => hW.swap fr fm)
            have hl2 : (l1.getD fr 0).toNat < (l1.getD fm 0).toNat := hlt
            clear hlt
            generalize sw l1 fr fm = l3 at *
            generalize l1.getD fr 0 = u at *
            generalize l1.getD fk 0 = x at *
            try generalize l1.getD fm 0 = z at *
            have t2 : decide (u.toNat < z.toNat) = true := decide_eq_true hl2
            clear hl2
            go_wp2_with fail
            go_quiet (first | (go_at_call 74; exact Calls.quiet_of_same (less_any _ _ _)))
            go_wp2_with fail
            obtain ⟨w1, hw1⟩ : ∃ w1, wr.drewN nq = w1 := ⟨_, rfl⟩
            have HC : Hid (∀ p, wr.cell? p = w1.cell? p) := by rw [← hw1]; exact fun p => rfl
            have HO1 : Hid (OU w1 B (.slice (some ⟨g, 0, none⟩) n cap) l1) := by rw [← hw1]; exact HO1.out
            have HB1 : Hid (Below B w w1) := by rw [← hw1]; exact below_drewN HB1.out _
            rw [hw1]
            rw [HC.out] at c1 c2
            try rw [HC.out] at c3
            clear hw1 HC
            go_quiet (first | (go_at_call 74; exact Calls.quiet_of_same (less_any _ _ _)))
            go_wp2
            obtain ⟨_, _, f1, f2, y, c4⟩ := HF.out (w1.drewN (nq + 1)) HO1.out
            go_region
            go_wp2
            go_roundw
            case rel => exact ⟨m, l3, by have := HKN.out; omega, by omega, rfl, HS2.out, HX2.out, HO3.out _ HO1.out, below_swap (below_drewN HB1.out _) HGB.out _ _ _ _⟩
            case measure => simp [intOf]; have := HKN.out; omega
          · have HD := Lib.hid (HX.out.done (fun c h1 h2 => by have := HG.out c h1 h2; rw [← HFC.out] at this; rw [← HKN.out.2.2.2.2]; omega))
            have hl2 : ¬ (l1.getD fr 0).toNat < (l1.getD fm 0).toNat := hlt
            clear hlt
            generalize l1.getD fr 0 = u at *
            generalize l1.getD fk 0 = x at *
            try generalize l1.getD fm 0 = z at *
            have t2 : decide (u.toNat < z.toNat) = false := decide_eq_false hl2
            clear hl2
            go_wp2_with fail
            go_quiet (first | (go_at_call 74; exact Calls.quiet_of_same (less_any _ _ _)))
            go_wp2_with fail
            obtain ⟨w1, hw1⟩ : ∃ w1, wr.drewN nq = w1 := ⟨_, rfl⟩
            have HC : Hid (∀ p, wr.cell? p = w1.cell? p) := by rw [← hw1]; exact fun p => rfl
            have HO1 : Hid (OU w1 B (.slice (some ⟨g, 0, none⟩) n cap) l1) := by rw [← hw1]; exact HO1.out
            have HB1 : Hid (Below B w w1) := by rw [← hw1]; exact below_drewN HB1.out _
            rw [hw1]
            rw [HC.out] at c1 c2
            try rw [HC.out] at c3
            clear hw1 HC
            go_quiet (first | (go_at_call 74; exact Calls.quiet_of_same (less_any _ _ _)))
            go_wp2
            go_end0
            exact ⟨l1, rfl, HS.out, HD.out, HO1.out, below_drewN HB1.out _⟩
        · have t1 : decide ((l1.getD fk 0).toNat < (l1.getD fm 0).toNat) = false := decide_eq_false hcmp
          have HG : Hid (∀ c, c = 2 * r + 1 ∨ c = 2 * r + 2 → c < hi → ky l1 (f + c) ≤ ky l1 (f + k)) := fun c h1 h2 => by
            obtain ⟨e1, e2, e3, e4, e5⟩ := HKN.out
            have E1 : ky l1 (f + (2 * r + 1)) = ky l1 fk := by rw [e3, e1]
            have E2 : ky l1 (f + (2 * r + 2)) = ky l1 fm := by rw [e4, e2]
            have E3 : f + k = fk := by omega
            rw [E3]
            rcases h1 with rfl | rfl
            · omega
            · omega
          clear hcmp
          have hfc : fk = f + k := by have := HKN.out; omega
          have HFC := Lib.hid hfc
          clear hfc
          by_cases hlt : ky l1 fr < ky l1 fk
          · have HX2 := Lib.hid (HX.out.step (ch := k) (by omega) (by have := HKN.out; omega) (by omega) (by have := HL.out; omega) (by rw [← HFC.out, ← HKN.out.2.2.2.2]; exact hlt) HG.out)
            rw [← HFC.out, ← HKN.out.2.2.2.2] at HX2
            have HS2 := Lib.hid (HS.out.step (i := fr) (j := fk) (by have := HKN.out; omega) (by have := HKN.out; omega) (by have := HKN.out; omega) (by have := HKN.out; omega) (by have := HL.out; omega))
            have HF := Lib.hid (fun W (hW : OU W B (.slice (some ⟨g, 0, none⟩) n cap) l1) => OU.swapF (w := W) (i := fr) (j := fk) hW (by have := HKN.out; have := HL.out; omega) (by have := HKN.out; have := HL.out; omega))
            have HO3 := Lib.hid (fun W (hW : OU W B (.slice (some ⟨g, 0, none⟩) n cap) l1) => hW.swap fr fk)
            have hl2 : (l1.getD fr 0).toNat < (l1.getD fk 0).toNat := hlt
            clear hlt
            generalize sw l1 fr fk = l3 at *
            generalize l1.getD fr 0 = u at *
            generalize l1.getD fk 0 = x at *
            try generalize l1.getD fm 0 = z at *
            have t2 : decide (u.toNat < x.toNat) = true := decide_eq_true hl2
            clear hl2
            go_wp2_with fail
            go_quiet (first | (go_at_call 74; exact Calls.quiet_of_same (less_any _ _ _)))
            go_wp2_with fail
            obtain ⟨w1, hw1⟩ : ∃ w1, wr.drewN nq = w1 := ⟨_, rfl⟩
            have HC : Hid (∀ p, wr.cell? p = w1.cell? p) := by rw [← hw1]; exact fun p => rfl
            have HO1 : Hid (OU w1 B (.slice (some ⟨g, 0, none⟩) n cap) l1) := by rw [← hw1]; exact HO1.out
            have HB1 : Hid (Below B w w1) := by rw [← hw1]; exact below_drewN HB1.out _
            rw [hw1]
            rw [HC.out] at c1 c2
            try rw [HC.out] at c3
            clear hw1 HC
            go_quiet (first | (go_at_call 74; exact Calls.quiet_of_same (less_any _ _ _)))
            go_wp2
            obtain ⟨_, _, f1, f2, y, c4⟩ := HF.out (w1.drewN (nq + 1)) HO1.out
            go_region
            go_wp2
            go_roundw
            case rel => exact ⟨k, l3, by have := HKN.out; omega, by omega, rfl, HS2.out, HX2.out, HO3.out _ HO1.out, below_swap (below_drewN HB1.out _) HGB.out _ _ _ _⟩
            case measure => simp [intOf]; have := HKN.out; omega
          · have HD := Lib.hid (HX.out.done (fun c h1 h2 => by have := HG.out c h1 h2; rw [← HFC.out] at this; rw [← HKN.out.2.2.2.2]; omega))
            have hl2 : ¬ (l1.getD fr 0).toNat < (l1.getD fk 0).toNat := hlt
            clear hlt
            generalize l1.getD fr 0 = u at *
            generalize l1.getD fk 0 = x at *
            try generalize l1.getD fm 0 = z at *
            have t2 : decide (u.toNat < x.toNat) = false := decide_eq_false hl2
            clear hl2
            go_wp2_with fail
            go_quiet (first | (go_at_call 74; exact Calls.quiet_of_same (less_any _ _ _)))
            go_wp2_with fail
            obtain ⟨w1, hw1⟩ : ∃ w1, wr.drewN nq = w1 := ⟨_, rfl⟩
            have HC : Hid (∀ p, wr.cell? p = w1.cell? p) := by rw [← hw1]; exact fun p => rfl
            have HO1 : Hid (OU w1 B (.slice (some ⟨g, 0, none⟩) n cap) l1) := by rw [← hw1]; exact HO1.out
            have HB1 : Hid (Below B w w1) := by rw [← hw1]; exact below_drewN HB1.out _
            rw [hw1]
            rw [HC.out] at c1 c2
            try rw [HC.out] at c3
            clear hw1 HC
            go_quiet (first | (go_at_call 74; exact Calls.quiet_of_same (less_any _ _ _)))
            go_wp2
            go_end0
            exact ⟨l1, rfl, HS.out, HD.out, HO1.out, below_drewN HB1.out _⟩
      · have d1 : decide ((m : Int) < (hi : Int)) = false := decide_eq_false (by omega)
        have hcmp : ¬ (m < hi ∧ ky l1 fk < ky l1 fm) := fun h => hmh h.1
        have HG : Hid (∀ c, c = 2 * r + 1 ∨ c = 2 * r + 2 → c < hi → ky l1 (f + c) ≤ ky l1 (f + k)) := fun c h1 h2 => by
          obtain ⟨e1, e2, e3, e4, e5⟩ := HKN.out
          have E1 : ky l1 (f + (2 * r + 1)) = ky l1 fk := by rw [e3, e1]
          have E2 : ky l1 (f + (2 * r + 2)) = ky l1 fm := by rw [e4, e2]
          have E3 : f + k = fk := by omega
          rw [E3]
          rcases h1 with rfl | rfl
          · omega
          · omega
        clear hcmp
        have hfc : fk = f + k := by have := HKN.out; omega
        have HFC := Lib.hid hfc
        clear hfc
        by_cases hlt : ky l1 fr < ky l1 fk
        · have HX2 := Lib.hid (HX.out.step (ch := k) (by omega) (by have := HKN.out; omega) (by omega) (by have := HL.out; omega) (by rw [← HFC.out, ← HKN.out.2.2.2.2]; exact hlt) HG.out)
          rw [← HFC.out, ← HKN.out.2.2.2.2] at HX2
          have HS2 := Lib.hid (HS.out.step (i := fr) (j := fk) (by have := HKN.out; omega) (by have := HKN.out; omega) (by have := HKN.out; omega) (by have := HKN.out; omega) (by have := HL.out; omega))
          have HF := Lib.hid (fun W (hW : OU W B (.slice (some ⟨g, 0, none⟩) n cap) l1) => OU.swapF (w := W) (i := fr) (j := fk) hW (by have := HKN.out; have := HL.out; omega) (by have := HKN.out; have := HL.out; omega))
          have HO3 := Lib.hid (fun W (hW : OU W B (.slice (some ⟨g, 0, none⟩) n cap) l1) => hW.swap fr fk)
          have hl2 : (l1.getD fr 0).toNat < (l1.getD fk 0).toNat := hlt
          clear hlt
          generalize sw l1 fr fk = l3 at *
          generalize l1.getD fr 0 = u at *
          generalize l1.getD fk 0 = x at *
          try generalize l1.getD fm 0 = z at *
          have t2 : decide (u.toNat < x.toNat) = true := decide_eq_true hl2
          clear hl2
          go_wp2_with fail
          go_quiet (fail)
          go_wp2_with fail
          obtain ⟨w1, hw1⟩ : ∃ w1, wr.drewN nq = w1 := ⟨_, rfl⟩
          have HC : Hid (∀ p, wr.cell? p = w1.cell? p) := by rw [← hw1]; exact fun p => rfl
          have HO1 : Hid (OU w1 B (.slice (some ⟨g, 0, none⟩) n cap) l1) := by rw [← hw1]; exact HO1.out
          have HB1 : Hid (Below B w w1) := by rw [← hw1]; exact below_drewN HB1.out _
          rw [hw1]
          rw [HC.out] at c1 c2
          try rw [HC.out] at c3
          clear hw1 HC
          go_quiet (first | (go_at_call 74; exact Calls.quiet_of_same (less_any _ _ _)))
          go_wp2
          obtain ⟨_, _, f1, f2, y, c4⟩ := HF.out (w1.drewN (nq + 1)) HO1.out
          go_region
          go_wp2
          go_roundw
          case rel => exact ⟨k, l3, by have := HKN.out; omega, by omega, rfl, HS2.out, HX2.out, HO3.out _ HO1.out, below_swap (below_drewN HB1.out _) HGB.out _ _ _ _⟩
          case measure => simp [intOf]; have := HKN.out; omega
        · have HD := Lib.hid (HX.out.done (fun c h1 h2 => by have := HG.out c h1 h2; rw [← HFC.out] at this; rw [← HKN.out.2.2.2.2]; omega))
          have hl2 : ¬ (l1.getD fr 0).toNat < (l1.getD fk 0).toNat := hlt
          clear hlt
          generalize l1.getD fr 0 = u at *
          generalize l1.getD fk 0 = x at *
          try generalize l1.getD fm 0 = z at *
          have t2 : decide (u.toNat < x.toNat) = false := decide_eq_false hl2
          clear hl2
          go_wp2_with fail
          go_quiet (fail)
          go_wp2_with fail
          obtain ⟨w1, hw1⟩ : ∃ w1, wr.drewN nq = w1 := ⟨_, rfl⟩
          have HC : Hid (∀ p, wr.cell? p = w1.cell? p) := by rw [← hw1]; exact fun p => rfl
          have HO1 : Hid (OU w1 B (.slice (some ⟨g, 0, none⟩) n cap) l1) := by rw [← hw1]; exact HO1.out
          have HB1 : Hid (Below B w w1) := by rw [← hw1]; exact below_drewN HB1.out _
          rw [hw1]
          rw [HC.out] at c1 c2
          try rw [HC.out] at c3
          clear hw1 HC
          go_quiet (first | (go_at_call 74; exact Calls.quiet_of_same (less_any _ _ _)))
          go_wp2
          go_end0
          exact ⟨l1, rfl, HS.out, HD.out, HO1.out, below_drewN HB1.out _⟩
end Go.Proofs.Ytnihcpaakbhpcaa
