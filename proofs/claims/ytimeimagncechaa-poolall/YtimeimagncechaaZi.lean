/- lotdrawerref.FAll. -/
import Derived.Test.YtimeimagncechaaZh
import Derived.Deep.RegionHeld3
namespace Go.Proofs.Ytimeimagncechaa
open Go.RowKit Go.Deep

theorem keep_one {w : World} {g j : Nat} {x : Value} {a : Addr} {u : Option Value} (ha : a.block ≠ g) (h : w.cell? a = u) : (w.setCell ⟨g, j, none⟩ x).cell? a = u := by
  have e : (⟨g, j, none⟩ : Addr) ≠ a := fun e => ha (by rw [← e])
  rw [World.cell?_setCell_other _ _ _ _ e]; exact h
theorem keep_store {w : World} {g : Nat} {x y z : Value} {a : Addr} {u : Option Value} (ha : a.block ≠ g) (h : w.cell? a = u) : (((w.setCell ⟨g, 0, none⟩ x).setCell ⟨g, 1, none⟩ y).setCell ⟨g, 2, none⟩ z).cell? a = u := keep_one ha (keep_one ha (keep_one ha h))
theorem addR_ok {r c : Int} {xs : List Int} {x d : Int} (h : PR r c xs) : addR r c xs x d = putR r c xs x d := if_pos h
set_option maxRecDepth 100000 in
set_option maxHeartbeats 4000000 in
theorem fAll_any (r : Int) (A : Option Addr) (ca : Nat) (l : List Int) (D : Option Addr) (cd : Nat) (ds : List Int) (w : World) (hl : IP w A ca l) (hd : IP w D cd ds) :
    Calls Try.prog 17 #[.int .i64 r, .slice A l.length ca, .slice D ds.length cd] w (PPost w.heap.size w (allR r l ds)) := by
  have hle := hl.le
  have hcap := hl.cap
  have hle2 := hd.le
  have hcap2 := hd.cap
  have HL := Lib.hid hl
  have HD := Lib.hid hd
  clear hl hd
  by_cases h : 1 ≤ r ∧ r ≤ 400
  · obtain ⟨h1, h2⟩ := h
    have HR := Lib.hid (pr_new h1 h2)
    by_cases hn : l.length = ds.length
    · have E : Hid (allR r l ds = goR r 0 [] l ds) := by
        show allR r l ds = _
        unfold allR; rw [if_neg (by omega), if_neg (by omega)]
      have t1 : ((l.length : Int) != (ds.length : Int)) = false := by rw [hn]; simp
      have t2 : decide (r < 1) = false := decide_eq_false (by omega)
      have t3 : decide (400 < r) = false := decide_eq_false (by omega)
      have HN := Lib.hid hn
      clear hn
      obtain ⟨w0, hw0⟩ : ∃ w0, w0 = w.alloc (.cells #[.int .i64 0, .int .i64 0, .slice none 0 0] 24) := ⟨_, rfl⟩
      have HQ0 : Hid (PB w0 w.heap.size 0 0 (.slice none 0 0)) := by rw [hw0]; exact PB.new w 0 0 (.slice none 0 0)
      have HB0 : Hid (Below w.heap.size w w0) := by rw [hw0]; exact (Below.refl _ _).alloc (Nat.le_refl _) _
      have hs0 : w0.heap.size = w.heap.size + 1 := by rw [hw0]; simp
      have HP0 : Hid (PB ((w.alloc (.cells #[.int .i64 0, .int .i64 0, .slice none 0 0] 24)).alloc (.cells #[.int .i64 r, .int .i64 0, .slice none 0 0] 24)) (w.heap.size + 1) r 0 (.slice none 0 0)) := PB.new2 w _ r 0 (.slice none 0 0)
      have HB1 : Hid (Below w0.heap.size w0 ((w.alloc (.cells #[.int .i64 0, .int .i64 0, .slice none 0 0] 24)).alloc (.cells #[.int .i64 r, .int .i64 0, .slice none 0 0] 24))) := by rw [← hw0]; exact (Below.refl _ _).alloc (Nat.le_refl _) _
      have HS0 := Lib.hid hs0
      clear hw0 hs0
      go_enter Try.func17, Try.ntmps17
      go_wp2_with fail
      go_loopw [29] (fun iv wr => ∃ (k : Nat) (v : Value) (xs : List Int), k ≤ l.length ∧ iv = .int .i64 k ∧ PB wr (w.heap.size + 1) r k v ∧ OI wr (w.heap.size + 1) v xs ∧ PR r k xs ∧ goR r 0 [] l ds = goR r k xs (l.drop k) (ds.drop k) ∧ Below w0.heap.size w0 wr) (fun iv _ => l.length - (intOf iv).toNat)
      case atStart => exact ⟨0, _, [], by omega, rfl, HP0.out, OI.nil _ _, HR.out, rfl, HB1.out⟩
      case round =>
        obtain ⟨k, v, xs, hk, rfl, hP, hO, hR, hE, hB⟩ := hrel
        clear HP0 HB1 HR
        obtain ⟨R, cr, rfl⟩ := hO.shape
        obtain ⟨c0, c1, c2, f0, f1, f2⟩ := hP.at
        have HBw : Hid (Below w.heap.size w wr) := HB0.out.trans (hB.mono HB0.out.size)
        have HQr := Lib.hid (HQ0.out.later hB)
        have HPr := Lib.hid hP
        have HOr := Lib.hid hO
        have HE := Lib.hid hE
        have hsz : w.heap.size + 1 < wr.heap.size := Bs.lt hP
        have HRr := Lib.hid hR
        have HBr := Lib.hid hB
        clear hP hO hE hB hR
        by_cases hlt2 : k < l.length
        · have hlt3 : k < ds.length := by have := HN.out; omega
          have EG := Lib.hid (HE.out.trans (goR_at (r := r) (c := k) (xs := xs) hlt2 hlt3))
          obtain ⟨b, off, rfl, hbl, hcl⟩ := (HL.out.later HBw.out).il.at (by omega)
          obtain ⟨b2, off2, rfl, hbl2, hcd⟩ := (HD.out.later HBw.out).il.at (by omega)
          have hc1 := hcl k hlt2
          have hc2 := hcd k hlt3
          clear hcl hcd HE
          obtain ⟨x, hx⟩ : ∃ x, l.getD k 0 = x := ⟨_, rfl⟩
          obtain ⟨d, hdd⟩ : ∃ d, ds.getD k 0 = d := ⟨_, rfl⟩
          rw [hx] at hc1 EG
          rw [hdd] at hc2 EG
          clear hx hdd
          have CP : Hid (∀ wx, Below wr.heap.size wr wx → Calls Try.prog 12 #[pv r k (.slice R xs.length cr), .int .i64 x, .int .i64 d] wx (PPost wx.heap.size wx (putR r k xs x d))) := by
            intro wx hBx
            obtain ⟨R', cr', hv', hIP⟩ := (HOr.out.later hBx).ip
            cases hv'
            rw [← addR_ok HRr.out]
            exact fAdd_any r k R cr xs x d wx hIP
          unfold pv at CP
          have DS : Hid (w.heap.size + 1 < wr.heap.size ∧ b < wr.heap.size ∧ b2 < wr.heap.size ∧ wr.cell? ⟨w.heap.size + 1, 0, none⟩ = some (.int .i64 r) ∧ wr.cell? ⟨w.heap.size + 1, 1, none⟩ = some (.int .i64 (k : Int)) ∧ wr.cell? ⟨w.heap.size + 1, 2, none⟩ = some (.slice R xs.length cr) ∧ wr.cell? ⟨b, off + k, none⟩ = some (.int .i64 x) ∧ wr.cell? ⟨b2, off2 + k, none⟩ = some (.int .i64 d)) := ⟨hsz, hbl, hbl2, c0, c1, c2, hc1, hc2⟩
          have hn1 : w.heap.size + 1 ≠ wr.heap.size := by omega
          have hn2 : b ≠ wr.heap.size := by omega
          have hn3 : b2 ≠ wr.heap.size := by omega
          have HBa : Hid (Below wr.heap.size wr wr.drew) := (Below.refl _ _).drew
          have HBb : Hid (Below wr.heap.size wr (wr.alloc (.cells #[.int .i64 0, .int .i64 0, .slice none 0 0] 24)).drew) := ((Below.refl _ _).alloc (Nat.le_refl _) _).drew
          have HNb : Hid (PB (wr.alloc (.cells #[.int .i64 0, .int .i64 0, .slice none 0 0] 24)).drew wr.heap.size 0 0 (.slice none 0 0)) := PB.new wr 0 0 (.slice none 0 0)
          have i1 : (k : Int) < (l.length : Int) := by omega
          have i2 : (k : Int) < (ds.length : Int) := by omega
          have hn0 : w.heap.size ≠ wr.heap.size := by omega
          by_cases hf : (k : Int) = 1099511627776
          · rw [putR_full hf] at CP
            rw [if_pos hf] at EG
            unfold pz at CP
            clear hf
            go_wp2_with fail
            go_region_held3 (fun w' => w'.cell? ⟨w.heap.size + 1, 0, none⟩ = some (.int .i64 r) ∧ w'.cell? ⟨w.heap.size + 1, 1, none⟩ = some (.int .i64 (k : Int)) ∧ w'.cell? ⟨w.heap.size + 1, 2, none⟩ = some (.slice R xs.length cr) ∧ w'.cell? ⟨b, off + k, none⟩ = some (.int .i64 x) ∧ w'.cell? ⟨b2, off2 + k, none⟩ = some (.int .i64 d)) (first | go_keep | exact ⟨keep_store hn1 q0, keep_store hn1 q1, keep_store hn1 q2, keep_store hn2 q3, keep_store hn3 q4⟩)
              (first
                | (go_at_call 12; refine (CP.out _ HBa.out).mono ?_; have hBx := HBa.out; rintro e w3 ⟨v3, rfl, hO3, hB3⟩; obtain ⟨R3, cr3, rfl⟩ := hO3.shape; have hO3 := hO3.lower (B' := w.heap.size + 1) (Nat.le_trans (Nat.le_of_lt DS.out.1) hBx.size); have hB3 := hBx.trans (hB3.mono hBx.size); have q0 := (hB3.cell (p := ⟨w.heap.size + 1, 0, none⟩) DS.out.1).trans DS.out.2.2.2.1; have q1 := (hB3.cell (p := ⟨w.heap.size + 1, 1, none⟩) DS.out.1).trans DS.out.2.2.2.2.1; have q2 := (hB3.cell (p := ⟨w.heap.size + 1, 2, none⟩) DS.out.1).trans DS.out.2.2.2.2.2.1; have q3 := (hB3.cell (p := ⟨b, off + k, none⟩) DS.out.2.1).trans DS.out.2.2.2.2.2.2.1; have q4 := (hB3.cell (p := ⟨b2, off2 + k, none⟩) DS.out.2.2.1).trans DS.out.2.2.2.2.2.2.2; have hP3 := HPr.out.later hB3; have hQ3 := HQr.out.later hB3; obtain ⟨o0, o1, o2, o3, o4, o5⟩ := hP3.at; obtain ⟨j0, j1, j2, j3, j4, j5⟩ := hQ3.at; have HP3 := Lib.hid hP3; have HQ3 := Lib.hid hQ3; have HO3 := Lib.hid hO3; have HB3 := Lib.hid hB3; have hs3 := hB3.size; have hz3 := Nat.lt_of_lt_of_le DS.out.1 hs3; have hz4 : w.heap.size < w3.heap.size := Nat.lt_trans (Nat.lt_succ_self _) hz3; clear hO3 hB3 hP3 hQ3 hBx; unfold pv)
                | (go_at_call 12; refine (CP.out _ HBb.out).mono ?_; have hBx := HBb.out; rintro e w3 ⟨v3, rfl, hO3, hB3⟩; obtain ⟨R3, cr3, rfl⟩ := hO3.shape; have hN3 := HNb.out.later hB3; obtain ⟨m0, m1, m2, m3, m4, m5⟩ := hN3.at; have HN3 := Lib.hid hN3; clear hN3; have hO3 := hO3.lower (B' := w.heap.size + 1) (Nat.le_trans (Nat.le_of_lt DS.out.1) hBx.size); have hB3 := hBx.trans (hB3.mono hBx.size); have q0 := (hB3.cell (p := ⟨w.heap.size + 1, 0, none⟩) DS.out.1).trans DS.out.2.2.2.1; have q1 := (hB3.cell (p := ⟨w.heap.size + 1, 1, none⟩) DS.out.1).trans DS.out.2.2.2.2.1; have q2 := (hB3.cell (p := ⟨w.heap.size + 1, 2, none⟩) DS.out.1).trans DS.out.2.2.2.2.2.1; have q3 := (hB3.cell (p := ⟨b, off + k, none⟩) DS.out.2.1).trans DS.out.2.2.2.2.2.2.1; have q4 := (hB3.cell (p := ⟨b2, off2 + k, none⟩) DS.out.2.2.1).trans DS.out.2.2.2.2.2.2.2; have hP3 := HPr.out.later hB3; have hQ3 := HQr.out.later hB3; obtain ⟨o0, o1, o2, o3, o4, o5⟩ := hP3.at; obtain ⟨j0, j1, j2, j3, j4, j5⟩ := hQ3.at; have HP3 := Lib.hid hP3; have HQ3 := Lib.hid hQ3; have HO3 := Lib.hid hO3; have HB3 := Lib.hid hB3; have hs3 := hB3.size; have hz3 := Nat.lt_of_lt_of_le DS.out.1 hs3; have hz4 : w.heap.size < w3.heap.size := Nat.lt_trans (Nat.lt_succ_self _) hz3; clear hO3 hB3 hP3 hQ3 hBx; unfold pv))
            all_goals
              clear CP DS c0 c1 c2 f0 f1 f2
              go_wp2
              first
                | (have hN := HN3.out
                   have hQ4 := ((HQ3.out.other (a := ⟨wr.heap.size, 0, none⟩) hn0 (.int .i64 0)).other (a := ⟨wr.heap.size, 1, none⟩) hn0 (.int .i64 0)).other (a := ⟨wr.heap.size, 2, none⟩) hn0 (.slice R3 0 cr3)
                   refine ret_pool rfl rfl rfl (hQ4.store 0 0 (.slice R3 0 cr3)) rfl ?_
                   rw [E.out, EG.out]
                   exact ⟨_, rfl, ((HO3.out.lower (Nat.le_succ _)).store hN 0 0 (.slice R3 0 cr3)).store hQ4 0 0 (.slice R3 0 cr3), below_store (below_store (HBw.out.trans (HB3.out.mono (by omega))) (by omega) _ _ _) (Nat.le_refl _) _ _ _⟩)
                | (refine ret_pool rfl rfl rfl ((HQ3.out.store 0 0 (.slice R3 0 cr3)).alloc _) rfl ?_
                   rw [E.out, EG.out]
                   exact ⟨_, rfl, ((HO3.out.lower (Nat.le_succ _)).store HQ3.out 0 0 (.slice R3 0 cr3)).alloc _, (below_store (HBw.out.trans (HB3.out.mono (by omega))) (Nat.le_refl _) _ _ _).alloc (by simp; omega) _⟩)
          · rw [if_neg hf] at EG
            by_cases hg : d < 0 ∨ (k : Int) < d
            · rw [putR_bad hf hg] at CP
              rw [if_pos hg] at EG
              unfold pz at CP
              clear hf hg
              go_wp2_with fail
              go_region_held3 (fun w' => w'.cell? ⟨w.heap.size + 1, 0, none⟩ = some (.int .i64 r) ∧ w'.cell? ⟨w.heap.size + 1, 1, none⟩ = some (.int .i64 (k : Int)) ∧ w'.cell? ⟨w.heap.size + 1, 2, none⟩ = some (.slice R xs.length cr) ∧ w'.cell? ⟨b, off + k, none⟩ = some (.int .i64 x) ∧ w'.cell? ⟨b2, off2 + k, none⟩ = some (.int .i64 d)) (first | go_keep | exact ⟨keep_store hn1 q0, keep_store hn1 q1, keep_store hn1 q2, keep_store hn2 q3, keep_store hn3 q4⟩)
                (first
                  | (go_at_call 12; refine (CP.out _ HBa.out).mono ?_; have hBx := HBa.out; rintro e w3 ⟨v3, rfl, hO3, hB3⟩; obtain ⟨R3, cr3, rfl⟩ := hO3.shape; have hO3 := hO3.lower (B' := w.heap.size + 1) (Nat.le_trans (Nat.le_of_lt DS.out.1) hBx.size); have hB3 := hBx.trans (hB3.mono hBx.size); have q0 := (hB3.cell (p := ⟨w.heap.size + 1, 0, none⟩) DS.out.1).trans DS.out.2.2.2.1; have q1 := (hB3.cell (p := ⟨w.heap.size + 1, 1, none⟩) DS.out.1).trans DS.out.2.2.2.2.1; have q2 := (hB3.cell (p := ⟨w.heap.size + 1, 2, none⟩) DS.out.1).trans DS.out.2.2.2.2.2.1; have q3 := (hB3.cell (p := ⟨b, off + k, none⟩) DS.out.2.1).trans DS.out.2.2.2.2.2.2.1; have q4 := (hB3.cell (p := ⟨b2, off2 + k, none⟩) DS.out.2.2.1).trans DS.out.2.2.2.2.2.2.2; have hP3 := HPr.out.later hB3; have hQ3 := HQr.out.later hB3; obtain ⟨o0, o1, o2, o3, o4, o5⟩ := hP3.at; obtain ⟨j0, j1, j2, j3, j4, j5⟩ := hQ3.at; have HP3 := Lib.hid hP3; have HQ3 := Lib.hid hQ3; have HO3 := Lib.hid hO3; have HB3 := Lib.hid hB3; have hs3 := hB3.size; have hz3 := Nat.lt_of_lt_of_le DS.out.1 hs3; have hz4 : w.heap.size < w3.heap.size := Nat.lt_trans (Nat.lt_succ_self _) hz3; clear hO3 hB3 hP3 hQ3 hBx; unfold pv)
                  | (go_at_call 12; refine (CP.out _ HBb.out).mono ?_; have hBx := HBb.out; rintro e w3 ⟨v3, rfl, hO3, hB3⟩; obtain ⟨R3, cr3, rfl⟩ := hO3.shape; have hN3 := HNb.out.later hB3; obtain ⟨m0, m1, m2, m3, m4, m5⟩ := hN3.at; have HN3 := Lib.hid hN3; clear hN3; have hO3 := hO3.lower (B' := w.heap.size + 1) (Nat.le_trans (Nat.le_of_lt DS.out.1) hBx.size); have hB3 := hBx.trans (hB3.mono hBx.size); have q0 := (hB3.cell (p := ⟨w.heap.size + 1, 0, none⟩) DS.out.1).trans DS.out.2.2.2.1; have q1 := (hB3.cell (p := ⟨w.heap.size + 1, 1, none⟩) DS.out.1).trans DS.out.2.2.2.2.1; have q2 := (hB3.cell (p := ⟨w.heap.size + 1, 2, none⟩) DS.out.1).trans DS.out.2.2.2.2.2.1; have q3 := (hB3.cell (p := ⟨b, off + k, none⟩) DS.out.2.1).trans DS.out.2.2.2.2.2.2.1; have q4 := (hB3.cell (p := ⟨b2, off2 + k, none⟩) DS.out.2.2.1).trans DS.out.2.2.2.2.2.2.2; have hP3 := HPr.out.later hB3; have hQ3 := HQr.out.later hB3; obtain ⟨o0, o1, o2, o3, o4, o5⟩ := hP3.at; obtain ⟨j0, j1, j2, j3, j4, j5⟩ := hQ3.at; have HP3 := Lib.hid hP3; have HQ3 := Lib.hid hQ3; have HO3 := Lib.hid hO3; have HB3 := Lib.hid hB3; have hs3 := hB3.size; have hz3 := Nat.lt_of_lt_of_le DS.out.1 hs3; have hz4 : w.heap.size < w3.heap.size := Nat.lt_trans (Nat.lt_succ_self _) hz3; clear hO3 hB3 hP3 hQ3 hBx; unfold pv))
              all_goals
                clear CP DS c0 c1 c2 f0 f1 f2
                go_wp2
                first
                  | (have hN := HN3.out
                     have hQ4 := ((HQ3.out.other (a := ⟨wr.heap.size, 0, none⟩) hn0 (.int .i64 0)).other (a := ⟨wr.heap.size, 1, none⟩) hn0 (.int .i64 0)).other (a := ⟨wr.heap.size, 2, none⟩) hn0 (.slice R3 0 cr3)
                     refine ret_pool rfl rfl rfl (hQ4.store 0 0 (.slice R3 0 cr3)) rfl ?_
                     rw [E.out, EG.out]
                     exact ⟨_, rfl, ((HO3.out.lower (Nat.le_succ _)).store hN 0 0 (.slice R3 0 cr3)).store hQ4 0 0 (.slice R3 0 cr3), below_store (below_store (HBw.out.trans (HB3.out.mono (by omega))) (by omega) _ _ _) (Nat.le_refl _) _ _ _⟩)
                  | (refine ret_pool rfl rfl rfl ((HQ3.out.store 0 0 (.slice R3 0 cr3)).alloc _) rfl ?_
                     rw [E.out, EG.out]
                     exact ⟨_, rfl, ((HO3.out.lower (Nat.le_succ _)).store HQ3.out 0 0 (.slice R3 0 cr3)).alloc _, (below_store (HBw.out.trans (HB3.out.mono (by omega))) (Nat.le_refl _) _ _ _).alloc (by simp; omega) _⟩)
            · rw [if_neg hg] at EG
              rw [putR_ok hf (by omega) (by omega)] at CP
              have HR2 := Lib.hid (pr_nx (x := x) (d := d) HRr.out hf)
              have hk1 : k + 1 ≤ l.length := hlt2
              generalize nx r xs x d = ys at *
              clear hf hg
              go_wp2_with fail
              go_region_held3 (fun w' => w'.cell? ⟨w.heap.size + 1, 0, none⟩ = some (.int .i64 r) ∧ w'.cell? ⟨w.heap.size + 1, 1, none⟩ = some (.int .i64 (k : Int)) ∧ w'.cell? ⟨w.heap.size + 1, 2, none⟩ = some (.slice R xs.length cr) ∧ w'.cell? ⟨b, off + k, none⟩ = some (.int .i64 x) ∧ w'.cell? ⟨b2, off2 + k, none⟩ = some (.int .i64 d)) (first | go_keep | exact ⟨keep_store hn1 q0, keep_store hn1 q1, keep_store hn1 q2, keep_store hn2 q3, keep_store hn3 q4⟩)
                (first
                  | (go_at_call 12; refine (CP.out _ HBa.out).mono ?_; have hBx := HBa.out; rintro e w3 ⟨v3, rfl, hO3, hB3⟩; obtain ⟨R3, cr3, rfl⟩ := hO3.shape; have hO3 := hO3.lower (B' := w.heap.size + 1) (Nat.le_trans (Nat.le_of_lt DS.out.1) hBx.size); have hB3 := hBx.trans (hB3.mono hBx.size); have q0 := (hB3.cell (p := ⟨w.heap.size + 1, 0, none⟩) DS.out.1).trans DS.out.2.2.2.1; have q1 := (hB3.cell (p := ⟨w.heap.size + 1, 1, none⟩) DS.out.1).trans DS.out.2.2.2.2.1; have q2 := (hB3.cell (p := ⟨w.heap.size + 1, 2, none⟩) DS.out.1).trans DS.out.2.2.2.2.2.1; have q3 := (hB3.cell (p := ⟨b, off + k, none⟩) DS.out.2.1).trans DS.out.2.2.2.2.2.2.1; have q4 := (hB3.cell (p := ⟨b2, off2 + k, none⟩) DS.out.2.2.1).trans DS.out.2.2.2.2.2.2.2; have hP3 := HPr.out.later hB3; have hQ3 := HQr.out.later hB3; obtain ⟨o0, o1, o2, o3, o4, o5⟩ := hP3.at; obtain ⟨j0, j1, j2, j3, j4, j5⟩ := hQ3.at; have HP3 := Lib.hid hP3; have HQ3 := Lib.hid hQ3; have HO3 := Lib.hid hO3; have HB3 := Lib.hid hB3; have hs3 := hB3.size; have hz3 := Nat.lt_of_lt_of_le DS.out.1 hs3; have hz4 : w.heap.size < w3.heap.size := Nat.lt_trans (Nat.lt_succ_self _) hz3; clear hO3 hB3 hP3 hQ3 hBx; unfold pv)
                  | (go_at_call 12; refine (CP.out _ HBb.out).mono ?_; have hBx := HBb.out; rintro e w3 ⟨v3, rfl, hO3, hB3⟩; obtain ⟨R3, cr3, rfl⟩ := hO3.shape; have hN3 := HNb.out.later hB3; obtain ⟨m0, m1, m2, m3, m4, m5⟩ := hN3.at; have HN3 := Lib.hid hN3; clear hN3; have hO3 := hO3.lower (B' := w.heap.size + 1) (Nat.le_trans (Nat.le_of_lt DS.out.1) hBx.size); have hB3 := hBx.trans (hB3.mono hBx.size); have q0 := (hB3.cell (p := ⟨w.heap.size + 1, 0, none⟩) DS.out.1).trans DS.out.2.2.2.1; have q1 := (hB3.cell (p := ⟨w.heap.size + 1, 1, none⟩) DS.out.1).trans DS.out.2.2.2.2.1; have q2 := (hB3.cell (p := ⟨w.heap.size + 1, 2, none⟩) DS.out.1).trans DS.out.2.2.2.2.2.1; have q3 := (hB3.cell (p := ⟨b, off + k, none⟩) DS.out.2.1).trans DS.out.2.2.2.2.2.2.1; have q4 := (hB3.cell (p := ⟨b2, off2 + k, none⟩) DS.out.2.2.1).trans DS.out.2.2.2.2.2.2.2; have hP3 := HPr.out.later hB3; have hQ3 := HQr.out.later hB3; obtain ⟨o0, o1, o2, o3, o4, o5⟩ := hP3.at; obtain ⟨j0, j1, j2, j3, j4, j5⟩ := hQ3.at; have HP3 := Lib.hid hP3; have HQ3 := Lib.hid hQ3; have HO3 := Lib.hid hO3; have HB3 := Lib.hid hB3; have hs3 := hB3.size; have hz3 := Nat.lt_of_lt_of_le DS.out.1 hs3; have hz4 : w.heap.size < w3.heap.size := Nat.lt_trans (Nat.lt_succ_self _) hz3; clear hO3 hB3 hP3 hQ3 hBx; unfold pv))
              all_goals
                clear CP DS c0 c1 c2 f0 f1 f2
                go_wp2
                go_roundw
                case rel =>
                  first
                    | (have hN := HN3.out
                       have hP4 := ((HP3.out.other (a := ⟨wr.heap.size, 0, none⟩) hn1 (.int .i64 r)).other (a := ⟨wr.heap.size, 1, none⟩) hn1 (.int .i64 ((k : Int) + 1))).other (a := ⟨wr.heap.size, 2, none⟩) hn1 (.slice R3 ys.length cr3)
                       exact ⟨k + 1, _, ys, hk1, by go_num, hP4.store r ((k + 1 : Nat) : Int) (.slice R3 ys.length cr3), (HO3.out.store hN r ((k : Int) + 1) (.slice R3 ys.length cr3)).store hP4 r ((k + 1 : Nat) : Int) (.slice R3 ys.length cr3), by have := HR2.out; simpa using this, by rw [EG.out]; simp, below_store (below_store (HBr.out.trans (HB3.out.mono HBr.out.size)) HBr.out.size _ _ _) (Nat.le_of_eq HS0.out) _ _ _⟩)
                    | exact ⟨k + 1, _, ys, hk1, by go_num, (HP3.out.store r ((k + 1 : Nat) : Int) (.slice R3 ys.length cr3)).alloc _, (HO3.out.store HP3.out r ((k + 1 : Nat) : Int) (.slice R3 ys.length cr3)).alloc _, by have := HR2.out; simpa using this, by rw [EG.out]; simp, (below_store (HBr.out.trans (HB3.out.mono HBr.out.size)) (Nat.le_of_eq HS0.out) _ _ _).alloc (by simp; exact Nat.le_trans HBr.out.size hs3) _⟩
                case measure => simp [intOf]; omega
        · obtain rfl : k = l.length := by omega
          have EG : Hid (goR r 0 [] l ds = ((r, (l.length : Int), xs), 0)) := HE.out.trans (by rw [List.drop_eq_nil_of_le (Nat.le_refl _), goR_nil])
          obtain ⟨d0, d1, d2, g0, g1, g2⟩ := HQr.out.at
          clear HE
          go_wp2
          refine ret_pool rfl rfl rfl (HQr.out.store _ _ _) rfl ?_
          rw [E.out, EG.out]
          exact ⟨_, rfl, (HOr.out.lower (by omega)).store HQr.out _ _ _, below_store HBw.out (Nat.le_refl _) _ _ _⟩
    · have E : Hid (allR r l ds = (pz, 1)) := by
        show allR r l ds = _
        unfold allR; rw [if_neg (by omega), if_pos hn]
      have t1 : ((l.length : Int) != (ds.length : Int)) = true := by rw [bne_iff_ne]; omega
      have t2 : decide (r < 1) = false := decide_eq_false (by omega)
      have t3 : decide (400 < r) = false := decide_eq_false (by omega)
      clear hn HR
      go_enter Try.func17, Try.ntmps17
      go_wp2
      refine ret_pool rfl rfl rfl (PB.new w 0 0 (.slice none 0 0)) rfl ?_
      rw [E.out]
      exact ppost_none ((Below.refl _ _).alloc (Nat.le_refl _) _)
  · have E : Hid (allR r l ds = (pz, 2)) := by
      show allR r l ds = _
      unfold allR; rw [if_pos (by omega)]
    rcases (show r < 1 ∨ 400 < r by omega) with h1 | h1
    all_goals
      clear h
      go_enter Try.func17, Try.ntmps17
      go_wp2
      all_goals
        refine ret_pool rfl rfl rfl (PB.new w 0 0 (.slice none 0 0)) rfl ?_
        rw [E.out]
        exact ppost_none ((Below.refl _ _).alloc (Nat.le_refl _) _)
end Go.Proofs.Ytimeimagncechaa
