/- pool.Add. -/
import Derived.Test.YtimeimagncechaaZc
namespace Go.Proofs.Ytimeimagncechaa
open Go.RowKit Go.Deep

set_option maxHeartbeats 2000000 in
theorem poolAdd_any (r c : Int) (A : Option Addr) (ca : Nat) (xs : List Int) (x d : Int) (w : World) (hx : IP w A ca xs) :
    Calls Try.prog 11 #[pv r c (.slice A xs.length ca), .int .i64 x, .int .i64 d] w (PPost w.heap.size w (addR r c xs x d)) := by
  have HB : Hid (Below w.heap.size w ((w.alloc (.cells #[.int .i64 r, .int .i64 c, .slice A xs.length ca] 24)).alloc (.cells #[.int .i64 0, .int .i64 0, .slice none 0 0] 24))) := ((Below.refl _ _).alloc (Nat.le_refl _) _).alloc (by simp) _
  have C := Lib.hid (poolRight_any r c A ca xs ((w.alloc (.cells #[.int .i64 r, .int .i64 c, .slice A xs.length ca] 24)).alloc (.cells #[.int .i64 0, .int .i64 0, .slice none 0 0] 24)))
  have HP := Lib.hid ((PB.new w r c (.slice A xs.length ca)).alloc (.cells #[.int .i64 0, .int .i64 0, .slice none 0 0] 24))
  have HQ := Lib.hid (PB.new2 w (.cells #[.int .i64 r, .int .i64 c, .slice A xs.length ca] 24) 0 0 (.slice none 0 0))
  have HX := Lib.hid hx
  clear hx
  by_cases h : PR r c xs
  · have e1 : prB r c xs = true := decide_eq_true h
    have E : Hid (addR r c xs x d = putR r c xs x d) := if_pos h
    have HH := Lib.hid h
    rw [e1] at C
    clear h e1
    unfold pv at *
    go_enter Try.func11, Try.ntmps11
    go_wp2_with fail
    refine C.out.mono ?_
    rintro e w1 ⟨rfl, hB1⟩
    have hP := HP.out.later hB1
    have hQ := HQ.out.later hB1
    obtain ⟨c0, c1, c2, f0, f1, f2⟩ := hP.at
    have HP1 := Lib.hid hP
    have HQ1 := Lib.hid hQ
    have HB1 : Hid (Below w.heap.size w w1) := HB.out.trans (hB1.mono HB.out.size)
    have CO := Lib.hid (own_any r c A ca xs w1 (HX.out.later HB1.out) (by have := pr_len HH.out; omega))
    clear hB1 HB HP HQ C hP hQ
    unfold pv at CO
    go_wp2_with fail
    refine CO.out.mono ?_
    rintro e w2 ⟨v, rfl, hO, hB2⟩
    obtain ⟨R, cr, rfl⟩ := hO.shape
    have CP := Lib.hid (put_any r c _ xs x d w1.heap.size w2 hB2.size hO HH.out)
    have HP2 := Lib.hid (HP1.out.later hB2)
    have HQ2 := Lib.hid (HQ1.out.later hB2)
    have hlt := Bs.lt HQ1.out
    have HB2 : Hid (Below w.heap.size w w2) := HB1.out.trans (hB2.mono HB1.out.size)
    have hsz := HB1.out.size
    clear hB2 hO CO HP1 c0 c1 c2 f0 f1 f2
    unfold pv at CP
    go_wp2_with fail
    refine CP.out.mono ?_
    rintro e w3 ⟨v, rfl, hO, hB3⟩
    obtain ⟨R3, cr3, rfl⟩ := hO.shape
    have hQ3 := HQ2.out.below hB3 hlt
    obtain ⟨d0, d1, d2, g0, g1, g2⟩ := hQ3.at
    have HQ3 := Lib.hid hQ3
    have HO3 := Lib.hid (hO.lower hsz)
    have HB3 : Hid (Below w.heap.size w w3) := HB2.out.trans (hB3.mono hsz)
    clear hB3 hO CP HQ2 hQ3 HB2 HP2 HQ1
    unfold pv
    go_wp2
    refine ret_pool rfl rfl rfl (HQ3.out.store _ _ _) rfl ?_
    rw [E.out]
    exact ⟨_, rfl, HO3.out.store HQ3.out _ _ _, below_store HB3.out (by omega) _ _ _⟩
  · have e1 : prB r c xs = false := decide_eq_false h
    have E : Hid (addR r c xs x d = (pz, 1)) := if_neg h
    rw [e1] at C
    clear h e1
    unfold pv at *
    go_enter Try.func11, Try.ntmps11
    go_wp2_with fail
    refine C.out.mono ?_
    rintro e w1 ⟨rfl, hB1⟩
    have hQ := HQ.out.later hB1
    obtain ⟨d0, d1, d2, g0, g1, g2⟩ := hQ.at
    have HQ1 := Lib.hid hQ
    have HB1 : Hid (Below w.heap.size w w1) := HB.out.trans (hB1.mono HB.out.size)
    clear hB1 HB HP HQ C hQ
    go_wp2
    refine ret_pool rfl rfl rfl (HQ1.out.store _ _ _) rfl ?_
    rw [E.out]
    exact ppost_none (below_store HB1.out (by omega) _ _ _)
end Go.Proofs.Ytimeimagncechaa
