/- lotdrawerref.FAdd. -/
import Derived.Test.YtimeimagncechaaZg
import Derived.Test.YtimeimagncechaaZc
namespace Go.Proofs.Ytimeimagncechaa
open Go.RowKit Go.Deep

/-- The sample as the reference goes through it. -/
def fxs (r c : Int) (xs : List Int) (x d : Int) : List Int := if r ≤ c then xs.set d.toNat x else xs
theorem fxs_len (r c : Int) (xs : List Int) (x d : Int) : (fxs r c xs x d).length = xs.length := by unfold fxs; split <;> simp
theorem fxs_hit {r c : Int} {xs : List Int} {x d : Int} {k : Nat} (h : r ≤ c) (hd : (k : Int) = d) (hk : k < xs.length) : (fxs r c xs x d).getD k 0 = x := by
  subst hd
  unfold fxs; rw [if_pos h, Int.toNat_natCast]
  simp [List.getD_eq_getElem?_getD, hk]
theorem fxs_not {r c : Int} {xs : List Int} {x d : Int} {k : Nat} (h : ¬ (r ≤ c ∧ (k : Int) = d)) (h0 : 0 ≤ d) : (fxs r c xs x d).getD k 0 = xs.getD k 0 := by
  unfold fxs
  by_cases h1 : r ≤ c
  · rw [if_pos h1]
    simp only [List.getD_eq_getElem?_getD]
    rw [List.getElem?_set_ne (by omega)]
  · rw [if_neg h1]
theorem take_snoc {l : List Int} {k : Nat} (h : k < l.length) : l.take (k + 1) = l.take k ++ [l.getD k 0] := by
  rw [List.take_succ_eq_append_getElem h]
  simp [List.getD_eq_getElem?_getD, h]
theorem nx_fxs {r c : Int} {xs : List Int} {x d : Int} (hp : PR r c xs) (h0 : 0 ≤ d) : nx r xs x d = if c < r then fxs r c xs x d ++ [x] else fxs r c xs x d := by
  obtain ⟨h1, h2, h3, h4⟩ := hp
  by_cases h : c < r
  · rw [if_pos h, nx_room (by omega)]
    unfold fxs; rw [if_neg (by omega)]
  · rw [if_neg h]
    unfold fxs; rw [if_pos (by omega)]
    by_cases h5 : d < r
    · rw [nx_set (by omega) h5]
    · rw [nx_stay (by omega) h5, List.set_eq_of_length_le (by omega)]

set_option maxRecDepth 100000 in
set_option maxHeartbeats 4000000 in
theorem fAdd_ok (r c : Int) (A : Option Addr) (ca : Nat) (xs : List Int) (x d : Int) (w : World) (hx : IP w A ca xs) (hp : PR r c xs) (hc : c ≠ 1099511627776) (h0 : 0 ≤ d) (hd : d ≤ c) :
    Calls Try.prog 12 #[pv r c (.slice A xs.length ca), .int .i64 x, .int .i64 d] w (PPost w.heap.size w ((r, c + 1, nx r xs x d), 0)) := by
  have HB : Hid (Below w.heap.size w ((w.alloc (.cells #[.int .i64 r, .int .i64 c, .slice A xs.length ca] 24)).alloc (.cells #[.int .i64 0, .int .i64 0, .slice none 0 0] 24))) := ((Below.refl _ _).alloc (Nat.le_refl _) _).alloc (by simp) _
  have C := Lib.hid (fRight_any r c A ca xs ((w.alloc (.cells #[.int .i64 r, .int .i64 c, .slice A xs.length ca] 24)).alloc (.cells #[.int .i64 0, .int .i64 0, .slice none 0 0] 24)))
  have HP := Lib.hid ((PB.new w r c (.slice A xs.length ca)).alloc (.cells #[.int .i64 0, .int .i64 0, .slice none 0 0] 24))
  have HQ := Lib.hid (PB.new2 w (.cells #[.int .i64 r, .int .i64 c, .slice A xs.length ca] 24) 0 0 (.slice none 0 0))
  have HX := Lib.hid hx
  have hle := hx.le
  have hcap := hx.cap
  have hlen := pr_len hp
  clear hx
  rw [show prB r c xs = true from decide_eq_true hp] at C
  have EN := Lib.hid (nx_fxs (x := x) hp h0)
  obtain ⟨⟨p1, p2⟩, p3, p4, p5⟩ := hp
  clear p5
  have hc1 : c < 1099511627776 := by omega
  have EL := Lib.hid (fxs_len r c xs x d)
  have EH : Hid (∀ k : Nat, r ≤ c → (k : Int) = d → k < xs.length → (fxs r c xs x d).getD k 0 = x) := fun k h1 h2 h3 => fxs_hit h1 h2 h3
  have EO : Hid (∀ k : Nat, ¬ (r ≤ c ∧ (k : Int) = d) → (fxs r c xs x d).getD k 0 = xs.getD k 0) := fun k h => fxs_not h h0
  generalize fxs r c xs x d = ys at *
  unfold pv at *
  have u1 : decide (1099511627776 ≤ c) = false := decide_eq_false (by omega)
  have u2 : decide (d < 0) = false := decide_eq_false (by omega)
  have u3 : decide (c < d) = false := decide_eq_false (by omega)
  go_enter Try.func12, Try.ntmps12
  go_wp2_with fail
  refine C.out.mono ?_
  rintro e w1 ⟨rfl, hB1⟩
  have hP := HP.out.later hB1
  have hQ := HQ.out.later hB1
  obtain ⟨c0, c1, c2, f0, f1, f2⟩ := hP.at
  have HP1 := Lib.hid hP
  have HQ1 := Lib.hid hQ
  have HB1 : Hid (Below w.heap.size w w1) := HB.out.trans (hB1.mono HB.out.size)
  have hlt1 := Bs.lt HQ1.out
  clear hB1 HB HP HQ C hP hQ
  have HO1 := Lib.hid (PB.new w1 r (c + 1) (.slice none 0 0))
  have HB2 : Hid (Below w1.heap.size w1 (w1.alloc (.cells #[.int .i64 r, .int .i64 (c + 1), .slice none 0 0] 24))) := (Below.refl _ _).alloc (Nat.le_refl _) _
  have hlt0 : w.heap.size < w1.heap.size := by omega
  have HPa := (HP1.out.alloc (.cells #[.int .i64 r, .int .i64 (c + 1), .slice none 0 0] 24)).at.2.2.1
  go_wp2_with fail
  go_loopw [37] (fun iv wr => ∃ (k : Nat) (v : Value), k ≤ xs.length ∧ iv = .int .i64 k ∧ PB wr w1.heap.size r (c + 1) v ∧ OI wr (w1.heap.size + 1) v (ys.take k) ∧ Below w1.heap.size w1 wr) (fun iv _ => xs.length - (intOf iv).toNat)
  case atStart => exact ⟨0, _, by omega, rfl, HO1.out, OI.nil _ _, HB2.out⟩
  case round =>
    clear c0 c1 c2 f0 f1 f2 HO1 HB2 HPa
    obtain ⟨k, v, hk, rfl, hG, hO, hB⟩ := hrel
    obtain ⟨R, cr, rfl⟩ := hO.shape
    have hkl : (ys.take k).length = k := by rw [List.length_take, EL.out]; omega
    rw [hkl] at hG hO
    obtain ⟨c0, c1, c2, f0, f1, f2⟩ := (HP1.out.later hB).at
    obtain ⟨d0, d1, d2, g0, g1, g2⟩ := hG.at
    have HQr := Lib.hid (HQ1.out.later hB)
    have HG := Lib.hid hG
    have HO := Lib.hid hO
    have HBr := Lib.hid hB
    have HBw : Hid (Below w.heap.size w wr) := HB1.out.trans (hB.mono HB1.out.size)
    have hsz : w1.heap.size + 1 ≤ wr.heap.size := Bs.lt hG
    have HK := Lib.hid hkl
    have hne := Lib.hid (hO.pool hG)
    have hneP := Lib.hid (hO.pool (HP1.out.later hB))
    have hneQ := Lib.hid (hO.pool HQr.out)
    have HPr := Lib.hid (HP1.out.later hB)
    clear hG hO hB hkl
    by_cases hlt : k < xs.length
    · obtain ⟨b, off, rfl, _, hcl⟩ := (HX.out.later HBw.out).il.at (by omega)
      have hcx := hcl k hlt
      have i1 : (k : Int) < (xs.length : Int) := by omega
      have ES := Lib.hid (take_snoc (l := ys) (k := k) (by rw [EL.out]; exact hlt))
      generalize ys.take k = zs at *
      clear hcl HQr
      have hk1 : k + 1 ≤ xs.length := hlt
      rcases (show (r ≤ c ∧ (k : Int) = d) ∨ (¬ r ≤ c ∧ (k : Int) = d) ∨ ¬ (k : Int) = d by omega) with ⟨h1, h2⟩ | ⟨h1, h2⟩ | h2
      · rw [EH.out k h1 h2 hlt] at ES
        have t1 : ((k : Int) == d) = true := by rw [h2]; simp
        have t2 : decide (r ≤ c) = true := decide_eq_true h1
        generalize xs.getD k 0 = y at *
        clear h2
        go_wp2_with (at_builtin; refine wpList_push rfl _ _ rfl (w1.heap.size + 1) (.slice R k cr) zs x rfl HO.out rfl (by rw [HK.out]; omega) hsz (Below.refl _ wr) ?_)
        intro g cap w2 ho2 hB2 hgr
        rw [← ES.out, HK.out] at ho2
        have hG2 := PB.grown (HG.out.alloc _) hgr hne.out
        have hP2 := PB.grown (HPr.out.alloc _) hgr hneP.out
        obtain ⟨e0, e1, e2, j0, j1, j2⟩ := hG2.at
        have HG2 := Lib.hid hG2
        have HO2 := Lib.hid ho2
        have HB4 : Hid (Below w1.heap.size w1 w2) := HBr.out.trans (hB2.mono (by omega))
        clear hG2 hP2 ho2 hB2 hgr HG HO HBr c0 c1 c2 f0 f1 f2 d0 d1 d2 g0 g1 g2
        rw [HK.out]
        go_wp2
        go_roundw
        case rel => exact ⟨k + 1, _, hk1, by go_num, HG2.out.set2 _, HO2.out.other HG2.out _, HB4.out.setCell (p := ⟨w1.heap.size, 2, none⟩) (Nat.le_refl _) _⟩
        case measure => simp [intOf]; omega
      · rw [EO.out k (fun h => h1 h.1)] at ES
        have t1 : ((k : Int) == d) = true := by rw [h2]; simp
        have t2 : decide (r ≤ c) = false := decide_eq_false h1
        obtain ⟨y, hy⟩ : ∃ y, xs.getD k 0 = y := ⟨_, rfl⟩
        rw [hy] at ES hcx
        clear h2 hy
        go_wp2_with (at_builtin; refine wpList_push rfl _ _ rfl (w1.heap.size + 1) (.slice R k cr) zs y rfl HO.out rfl (by rw [HK.out]; omega) hsz (Below.refl _ wr) ?_)
        intro g cap w2 ho2 hB2 hgr
        rw [← ES.out, HK.out] at ho2
        have hG2 := PB.grown (HG.out.alloc _) hgr hne.out
        have hP2 := PB.grown (HPr.out.alloc _) hgr hneP.out
        obtain ⟨e0, e1, e2, j0, j1, j2⟩ := hG2.at
        have HG2 := Lib.hid hG2
        have HO2 := Lib.hid ho2
        have HB4 : Hid (Below w1.heap.size w1 w2) := HBr.out.trans (hB2.mono (by omega))
        clear hG2 hP2 ho2 hB2 hgr HG HO HBr c0 c1 c2 f0 f1 f2 d0 d1 d2 g0 g1 g2
        rw [HK.out]
        go_wp2
        go_roundw
        case rel => exact ⟨k + 1, _, hk1, by go_num, HG2.out.set2 _, HO2.out.other HG2.out _, HB4.out.setCell (p := ⟨w1.heap.size, 2, none⟩) (Nat.le_refl _) _⟩
        case measure => simp [intOf]; omega
      · rw [EO.out k (fun h => h2 h.2)] at ES
        have t1 : ((k : Int) == d) = false := by rw [beq_eq_false_iff_ne]; exact h2
        obtain ⟨y, hy⟩ : ∃ y, xs.getD k 0 = y := ⟨_, rfl⟩
        rw [hy] at ES hcx
        clear h2 hy
        go_wp2_with (at_builtin; refine wpList_push rfl _ _ rfl (w1.heap.size + 1) (.slice R k cr) zs y rfl HO.out rfl (by rw [HK.out]; omega) hsz (Below.refl _ wr) ?_)
        intro g cap w2 ho2 hB2 hgr
        rw [← ES.out, HK.out] at ho2
        have hG2 := PB.grown (HG.out.alloc _) hgr hne.out
        have hP2 := PB.grown (HPr.out.alloc _) hgr hneP.out
        obtain ⟨e0, e1, e2, j0, j1, j2⟩ := hG2.at
        have HG2 := Lib.hid hG2
        have HO2 := Lib.hid ho2
        have HB4 : Hid (Below w1.heap.size w1 w2) := HBr.out.trans (hB2.mono (by omega))
        clear hG2 hP2 ho2 hB2 hgr HG HO HBr c0 c1 c2 f0 f1 f2 d0 d1 d2 g0 g1 g2
        rw [HK.out]
        go_wp2
        go_roundw
        case rel => exact ⟨k + 1, _, hk1, by go_num, HG2.out.set2 _, HO2.out.other HG2.out _, HB4.out.setCell (p := ⟨w1.heap.size, 2, none⟩) (Nat.le_refl _) _⟩
        case measure => simp [intOf]; omega
    · obtain rfl : k = xs.length := by omega
      have eT : ys.take xs.length = ys := List.take_of_length_le (by rw [EL.out]; exact Nat.le_refl _)
      rw [eT] at HO HK
      obtain ⟨m0, m1, m2, n0, n1, n2⟩ := HQr.out.at
      by_cases hr : c < r
      · have EN2 : Hid (nx r xs x d = ys ++ [x]) := EN.out.trans (if_pos hr)
        have t1 : decide (c < r) = true := decide_eq_true hr
        clear eT
        go_wp2_with (at_builtin; refine wpList_push rfl _ _ rfl (w1.heap.size + 1) (.slice R xs.length cr) ys x rfl HO.out rfl (by rw [HK.out]; omega) hsz (Below.refl _ wr) ?_)
        intro g cap w2 ho2 hB2 hgr
        rw [HK.out] at ho2
        have hG2 := PB.grown (HG.out.alloc _) hgr hne.out
        have hQ2 := PB.grown (HQr.out.alloc _) hgr hneQ.out
        obtain ⟨e0, e1, e2, j0, j1, j2⟩ := hG2.at
        obtain ⟨o0, o1, o2, q0, q1, q2⟩ := hQ2.at
        have HG2 := Lib.hid hG2
        have HQ2 := Lib.hid hQ2
        have HO2 := Lib.hid ho2
        have HB4 : Hid (Below w.heap.size w w2) := HBw.out.trans (hB2.mono (by omega))
        have hne1 : w.heap.size + 1 ≠ w1.heap.size := by omega
        clear hG2 hQ2 ho2 hB2 hgr HG HO HBr c0 c1 c2 f0 f1 f2 d0 d1 d2 g0 g1 g2 m0 m1 m2 n0 n1 n2
        rw [HK.out]
        go_wp2
        have hQ3 := HQ2.out.other (a := ⟨w1.heap.size, 2, none⟩) hne1 (.slice (some ⟨g, 0, none⟩) (xs.length + 1) cap)
        refine ret_pool rfl rfl rfl (hQ3.store _ _ _) rfl ?_
        rw [EN2.out]
        refine ⟨_, rfl, ((HO2.out.lower (by omega)).other HG2.out _).store hQ3 _ _ _, ?_⟩
        exact below_store (HB4.out.setCell (p := ⟨w1.heap.size, 2, none⟩) (by simp; omega) _) (by omega) _ _ _
      · have EN2 : Hid (nx r xs x d = ys) := EN.out.trans (if_neg hr)
        have t1 : decide (c < r) = false := decide_eq_false hr
        clear eT
        go_wp2
        refine ret_pool rfl rfl rfl (HQr.out.store _ _ _) rfl ?_
        rw [EN2.out]
        exact ⟨_, rfl, (HO.out.lower (by omega)).store HQr.out _ _ _, below_store HBw.out (by omega) _ _ _⟩

set_option maxHeartbeats 2000000 in
theorem fAdd_any (r c : Int) (A : Option Addr) (ca : Nat) (xs : List Int) (x d : Int) (w : World) (hx : IP w A ca xs) :
    Calls Try.prog 12 #[pv r c (.slice A xs.length ca), .int .i64 x, .int .i64 d] w (PPost w.heap.size w (addR r c xs x d)) := by
  have HB : Hid (Below w.heap.size w ((w.alloc (.cells #[.int .i64 r, .int .i64 c, .slice A xs.length ca] 24)).alloc (.cells #[.int .i64 0, .int .i64 0, .slice none 0 0] 24))) := ((Below.refl _ _).alloc (Nat.le_refl _) _).alloc (by simp) _
  have C := Lib.hid (fRight_any r c A ca xs ((w.alloc (.cells #[.int .i64 r, .int .i64 c, .slice A xs.length ca] 24)).alloc (.cells #[.int .i64 0, .int .i64 0, .slice none 0 0] 24)))
  have HP := Lib.hid ((PB.new w r c (.slice A xs.length ca)).alloc (.cells #[.int .i64 0, .int .i64 0, .slice none 0 0] 24))
  have HQ := Lib.hid (PB.new2 w (.cells #[.int .i64 r, .int .i64 c, .slice A xs.length ca] 24) 0 0 (.slice none 0 0))
  by_cases hp : PR r c xs
  · rw [show addR r c xs x d = putR r c xs x d from if_pos hp]
    rw [show prB r c xs = true from decide_eq_true hp] at C
    have hc4 := hp.2.2.1
    by_cases h1 : c = 1099511627776
    · rw [putR_full h1]
      subst h1
      clear hx hp
      unfold pv at *
      go_enter Try.func12, Try.ntmps12
      go_wp2_with fail
      refine C.out.mono ?_
      rintro e w1 ⟨rfl, hB1⟩
      obtain ⟨c0, c1, c2, f0, f1, f2⟩ := (HP.out.later hB1).at
      have hQ := HQ.out.later hB1
      obtain ⟨d0, d1, d2, g0, g1, g2⟩ := hQ.at
      have HQ1 := Lib.hid hQ
      have HB1 : Hid (Below w.heap.size w w1) := HB.out.trans (hB1.mono HB.out.size)
      clear hB1 HB HP HQ C hQ
      go_wp2
      refine ret_pool rfl rfl rfl (HQ1.out.store _ _ _) rfl ?_
      exact ppost_none (below_store HB1.out (by omega) _ _ _)
    · by_cases h2 : d < 0 ∨ c < d
      · rw [putR_bad h1 h2]
        have u1 : decide (1099511627776 ≤ c) = false := decide_eq_false (by omega)
        clear hx hp
        unfold pv at *
        rcases h2 with h2 | h2
        all_goals
          go_enter Try.func12, Try.ntmps12
          go_wp2_with fail
          refine C.out.mono ?_
          rintro e w1 ⟨rfl, hB1⟩
          obtain ⟨c0, c1, c2, f0, f1, f2⟩ := (HP.out.later hB1).at
          have hQ := HQ.out.later hB1
          obtain ⟨d0, d1, d2, g0, g1, g2⟩ := hQ.at
          have HQ1 := Lib.hid hQ
          have HB1 : Hid (Below w.heap.size w w1) := HB.out.trans (hB1.mono HB.out.size)
          clear hB1 HB HP HQ C hQ
          go_wp2
          all_goals
            refine ret_pool rfl rfl rfl (HQ1.out.store _ _ _) rfl ?_
            exact ppost_none (below_store HB1.out (by omega) _ _ _)
      · rw [putR_ok h1 (by omega) (by omega)]
        exact fAdd_ok r c A ca xs x d w hx hp h1 (by omega) (by omega)
  · rw [show addR r c xs x d = (pz, 1) from if_neg hp]
    rw [show prB r c xs = false from decide_eq_false hp] at C
    clear hx hp
    unfold pv at *
    go_enter Try.func12, Try.ntmps12
    go_wp2_with fail
    refine C.out.mono ?_
    rintro e w1 ⟨rfl, hB1⟩
    have hQ := HQ.out.later hB1
    obtain ⟨d0, d1, d2, g0, g1, g2⟩ := hQ.at
    have HQ1 := Lib.hid hQ
    have HB1 : Hid (Below w.heap.size w w1) := HB.out.trans (hB1.mono HB.out.size)
    clear hB1 HB HP HQ C hQ
    go_wp2
    refine ret_pool rfl rfl rfl (HQ1.out.store _ _ _) rfl ?_
    exact ppost_none (below_store HB1.out (by omega) _ _ _)
end Go.Proofs.Ytimeimagncechaa
