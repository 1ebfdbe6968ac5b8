/- pool.Smaller. -/
import Derived.Test.YtimeimagncechaaZc
import Derived.Test.YtimeimagncechaaZl
namespace Go.Proofs.Ytimeimagncechaa
open Go.RowKit Go.Deep

set_option maxRecDepth 100000 in
set_option maxHeartbeats 4000000 in
theorem smaller_any (r c : Int) (A : Option Addr) (ca : Nat) (xs : List Int) (room : Int) (D : Option Addr) (cd : Nat) (ds : List Int) (w : World) (hx : IP w A ca xs) (hd : IP w D cd ds) :
    Calls Try.prog 18 #[pv r c (.slice A xs.length ca), .int .i64 room, .slice D ds.length cd] w (PPost w.heap.size w (lessR r c xs room ds)) := by
  have HB : Hid (Below w.heap.size w ((w.alloc (.cells #[.int .i64 r, .int .i64 c, .slice A xs.length ca] 24)).alloc (.cells #[.int .i64 0, .int .i64 0, .slice none 0 0] 24))) := ((Below.refl _ _).alloc (Nat.le_refl _) _).alloc (by simp) _
  have C := Lib.hid (poolRight_any r c A ca xs ((w.alloc (.cells #[.int .i64 r, .int .i64 c, .slice A xs.length ca] 24)).alloc (.cells #[.int .i64 0, .int .i64 0, .slice none 0 0] 24)))
  have HP := Lib.hid ((PB.new w r c (.slice A xs.length ca)).alloc (.cells #[.int .i64 0, .int .i64 0, .slice none 0 0] 24))
  have HQ := Lib.hid (PB.new2 w (.cells #[.int .i64 r, .int .i64 c, .slice A xs.length ca] 24) 0 0 (.slice none 0 0))
  have hle2 := hd.le
  have hcap2 := hd.cap
  have HX := Lib.hid hx
  have HD := Lib.hid hd
  clear hx hd
  by_cases h : PR r c xs
  · have e1 : prB r c xs = true := decide_eq_true h
    have E : Hid (lessR r c xs room ds = if room < 1 ∨ r < room then (pz, 2) else outR room c xs ds) := if_pos h
    have HH := Lib.hid h
    rw [e1] at C
    obtain ⟨⟨p1, p2⟩, p3, p4, p5⟩ := h
    clear p5 e1
    unfold pv at *
    by_cases hr : room < 1 ∨ r < room
    · have E2 : Hid (lessR r c xs room ds = (pz, 2)) := E.out.trans (if_pos hr)
      clear E
      rcases (show room < 1 ∨ (1 ≤ room ∧ r < room) by omega) with h1 | ⟨h0, h1⟩
      all_goals
        clear hr
        go_enter Try.func18, Try.ntmps18
        go_wp2_with fail
        refine C.out.mono ?_
        rintro e w1 ⟨rfl, hB1⟩
        have hP := HP.out.later hB1
        have hQ := HQ.out.later hB1
        obtain ⟨c0, c1, c2, f0, f1, f2⟩ := hP.at
        obtain ⟨d0, d1, d2, g0, g1, g2⟩ := hQ.at
        have HQ1 := Lib.hid hQ
        have HB1 : Hid (Below w.heap.size w w1) := HB.out.trans (hB1.mono HB.out.size)
        clear hB1 HB HP HQ C hP hQ
        go_wp2
        refine ret_pool rfl rfl rfl (HQ1.out.store _ _ _) rfl ?_
        rw [E2.out]
        exact ppost_none (below_store HB1.out (by omega) _ _ _)
    · have E2 : Hid (lessR r c xs room ds = outR room c xs ds) := E.out.trans (if_neg hr)
      have r1 : 1 ≤ room := by omega
      have r2 : room ≤ r := by omega
      clear E hr
      go_enter Try.func18, Try.ntmps18
      go_wp2_with fail
      refine C.out.mono ?_
      rintro e w1 ⟨rfl, hB1⟩
      have hP := HP.out.later hB1
      have hQ := HQ.out.later hB1
      obtain ⟨c0, c1, c2, f0, f1, f2⟩ := hP.at
      have HP1 := Lib.hid hP
      have HQ1 := Lib.hid hQ
      have hs1 : w.heap.size + 2 ≤ w1.heap.size := by have := Bs.lt hQ; omega
      have HB1 : Hid (Below w.heap.size w w1) := HB.out.trans (hB1.mono HB.out.size)
      have CO := Lib.hid (own_any r c A ca xs w1 (HX.out.later HB1.out) (by have := pr_len HH.out; omega))
      clear hB1 HB HP HQ C hP hQ
      unfold pv at CO
      go_wp2_with fail
      refine CO.out.mono ?_
      rintro e w2 ⟨v, rfl, hO, hB2⟩
      obtain ⟨R, cr, rfl⟩ := hO.shape
      have hP2 := HP1.out.later hB2
      have hQ2 := HQ1.out.later hB2
      obtain ⟨c0, c1, c2, f0, f1, f2⟩ := hP2.at
      have HB2 : Hid (Below w.heap.size w w2) := HB1.out.trans (hB2.mono HB1.out.size)
      have HP3 := Lib.hid ((hP2.store r c (.slice R xs.length cr)).set0 room)
      have HO3 := Lib.hid (((hO.lower hs1).store hP2 r c (.slice R xs.length cr)).other (hP2.store r c (.slice R xs.length cr)) (j := 0) (.int .i64 room))
      have HQ3 := Lib.hid ((((hQ2.other (a := ⟨w.heap.size, 0, none⟩) (by simp) (.int .i64 r)).other (a := ⟨w.heap.size, 1, none⟩) (by simp) (.int .i64 c)).other (a := ⟨w.heap.size, 2, none⟩) (by simp) (.slice R xs.length cr)).other (a := ⟨w.heap.size, 0, none⟩) (by simp) (.int .i64 room))
      have HB3 := Lib.hid ((below_store HB2.out (Nat.le_refl _) (.int .i64 r) (.int .i64 c) (.slice R xs.length cr)).setCell (p := ⟨w.heap.size, 0, none⟩) (Nat.le_refl _) (.int .i64 room))
      have hxl := pr_len HH.out
      clear hB2 hO CO HP1 hP2 hQ2 HQ1 HB2
      go_wp2_with fail
      go_loopw [8] (fun iv wr => ∃ (k : Nat) (v : Value) (ys : List Int), k ≤ ds.length ∧ ys.length ≤ 400 ∧ iv = .int .i64 k ∧ PB wr w.heap.size room c v ∧ PB wr (w.heap.size + 1) 0 0 (.slice none 0 0) ∧ OI wr (w.heap.size + 2) v ys ∧ outR room c xs ds = outR room c ys (ds.drop k) ∧ Below w.heap.size w wr) (fun iv _ => ds.length - (intOf iv).toNat)
      case atStart => exact ⟨0, _, xs, by omega, hxl, rfl, HP3.out, HQ3.out, HO3.out, rfl, HB3.out⟩
      case round =>
        obtain ⟨k, v, ys, hk, hyl, rfl, hP, hQ, hO, hE, hB⟩ := hrel
        clear HP3 HB3 HQ3 HO3 c0 c1 c2 f0 f1 f2
        obtain ⟨R, cr, rfl⟩ := hO.shape
        obtain ⟨c0, c1, c2, f0, f1, f2⟩ := hP.at
        obtain ⟨d0, d1, d2, g0, g1, g2⟩ := hQ.at
        have HPr := Lib.hid hP
        have HQr := Lib.hid hQ
        have HOr := Lib.hid hO
        have HE := Lib.hid hE
        have HBr := Lib.hid hB
        clear hP hO hE hB hQ
        by_cases hlen : (ys.length : Int) ≤ room
        · have EG := Lib.hid (HE.out.trans (outR_end hlen))
          clear HE
          go_wp2
          refine ret_pool rfl rfl rfl (HQr.out.store _ _ _) rfl ?_
          rw [E2.out, EG.out]
          exact ⟨_, rfl, (HOr.out.lower (by omega)).store HQr.out _ _ _, below_store HBr.out (by omega) _ _ _⟩
        · by_cases hke : k = ds.length
          · have EG : Hid (outR room c xs ds = (pz, 7)) := HE.out.trans (by rw [hke, List.drop_eq_nil_of_le (Nat.le_refl _), outR_none hlen])
            subst hke
            clear HE
            go_wp2
            refine ret_pool rfl rfl rfl (HQr.out.store _ _ _) rfl ?_
            rw [E2.out, EG.out]
            exact ppost_none (below_store HBr.out (by omega) _ _ _)
          · have hk2 : k < ds.length := by omega
            have EG := Lib.hid (HE.out.trans (outR_at hlen hk2))
            obtain ⟨b2, off2, rfl, _, hcd⟩ := (HD.out.later HBr.out).il.at (by omega)
            have hc2 := hcd k hk2
            obtain ⟨d, hdd⟩ : ∃ d, ds.getD k 0 = d := ⟨_, rfl⟩
            rw [hdd] at hc2 EG
            have t1 : ((k : Int) == (ds.length : Int)) = false := by rw [beq_eq_false_iff_ne]; omega
            clear hdd hcd HE hke
            by_cases hg : d < 0 ∨ (ys.length : Int) ≤ d
            · rw [if_pos hg] at EG
              rcases (show d < 0 ∨ (0 ≤ d ∧ (ys.length : Int) ≤ d) by omega) with h1 | ⟨h0, h1⟩
              all_goals
                clear hg
                go_wp2
                refine ret_pool rfl rfl rfl (HQr.out.store _ _ _) rfl ?_
                rw [E2.out, EG.out]
                exact ppost_none (below_store HBr.out (by omega) _ _ _)
            · rw [if_neg hg] at EG
              obtain ⟨e, rfl⟩ : ∃ e : Nat, d = e := ⟨d.toNat, by omega⟩
              rw [Int.toNat_natCast] at EG
              have he : e < ys.length := by omega
              have CD := Lib.hid (delete_any _ (w.heap.size + 2) e ys wr HOr.out he)
              have hl2 : (ys.eraseIdx e).length ≤ 400 := by rw [List.length_eraseIdx_of_lt he]; omega
              have hk1 : k + 1 ≤ ds.length := hk2
              clear hg
              go_wp2_with fail
              refine CD.out.mono ?_
              rintro e' w3 ⟨v', rfl, hO3, hB3, _⟩
              obtain ⟨R3, cr3, rfl⟩ := hO3.shape
              have hP3 := HPr.out.below hB3 (by omega)
              have hQ3 := HQr.out.below hB3 (by omega)
              obtain ⟨c0, c1, c2, f0, f1, f2⟩ := hP3.at
              have HP3 := Lib.hid hP3
              have HQ3 := Lib.hid hQ3
              have HO3 := Lib.hid hO3
              have HB3 := Lib.hid (HBr.out.trans (hB3.mono (by omega)))
              clear hP3 hQ3 hO3 hB3 CD HPr HQr HOr HBr
              go_wp2
              go_roundw
              case rel =>
                exact ⟨k + 1, _, _, hk1, hl2, by go_num, HP3.out.set2 _, HQ3.out.other (by simp) _, HO3.out.other HP3.out _, EG.out, HB3.out.setCell (Nat.le_refl _) _⟩
              case measure => simp [intOf]; omega
  · have e1 : prB r c xs = false := decide_eq_false h
    have E : Hid (lessR r c xs room ds = (pz, 1)) := if_neg h
    rw [e1] at C
    clear h e1
    unfold pv at *
    go_enter Try.func18, Try.ntmps18
    go_wp2_with fail
    refine C.out.mono ?_
    rintro e w1 ⟨rfl, hB1⟩
    have hQ := HQ.out.later hB1
    obtain ⟨d0, d1, d2, g0, g1, g2⟩ := hQ.at
    have HQ1 := Lib.hid hQ
    have HB1 : Hid (Below w.heap.size w w1) := HB.out.trans (hB1.mono HB.out.size)
    clear hB1 HB HP HQ C hQ
    go_wp2
    refine ret_pool rfl rfl rfl (HQ1.out.store _ _ _) rfl ?_
    rw [E.out]
    exact ppost_none (below_store HB1.out (by omega) _ _ _)
end Go.Proofs.Ytimeimagncechaa
