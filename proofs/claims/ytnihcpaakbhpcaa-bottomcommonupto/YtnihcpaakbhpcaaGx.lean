/- lotdrawerkeep.BottomCommon: the walk (up to a bulk). -/
import Derived.Test.YtnihcpaakbhpcaaGw
import Derived.Test.YtnihcpaakbhpcaaG7
namespace Go.Proofs.Ytnihcpaakbhpcaa
open Go.RowKit Go.Deep Go.Sort Go.Lib

set_option maxRecDepth 100000 in
set_option maxHeartbeats 4000000 in
theorem bottomCommon_walk (s : W64) (r : Int) (X Y : Option Addr) (cx cy : Nat) (x y : List W64) (w : World) (hx : UP w X cx x) (hy : UP w Y cy y) (sx : cx ≤ 1048576) (sy : cy ≤ 1048576) :
    Calls Try.prog 9 #[.int .u64 (s.toNat : Int), .int .i64 r, .slice X x.length cx, .slice Y y.length cy] w fun e w' => e = .returned (.bool true) ∧ Below w.heap.size w w' := by
  have lx : x.length ≤ 1048576 := Nat.le_trans hx.le sx
  have ly : y.length ≤ 1048576 := Nat.le_trans hy.le sy
  have CA := Lib.hid (alive12_any w)
  have HX := Lib.hid hx
  have HY := Lib.hid hy
  have CX : Hid (∀ w1, Below w.heap.size w w1 → Calls Try.prog 16 #[.int .u64 (s.toNat : Int), .int .i64 r, .slice X x.length cx] w1 (UOPost w1 (allF s r x))) := fun w1 h => all_any s r X cx x w1 (hx.later h) (by omega)
  have CY : Hid (∀ w1, Below w.heap.size w w1 → Calls Try.prog 16 #[.int .u64 (s.toNat : Int), .int .i64 r, .slice Y y.length cy] w1 (UOPost w1 (allF s r y))) := fun w1 h => all_any s r Y cy y w1 (hy.later h) (by omega)
  have CC : Hid (∀ w2, Below w.heap.size w w2 → Calls Try.prog 25 #[.slice (some ⟨w2.heap.size, 0, none⟩) 2 2] (w2.alloc (.cells #[.slice X x.length cx, .slice Y y.length cy] 25)) fun e w' => ∃ R cr, e = .returned (.slice R (x ++ y).length cr) ∧ UP w' R cr (x ++ y) ∧ Below w2.heap.size w2 w') := fun w2 hw => by
    have hbv : Below w2.heap.size w2 (w2.alloc (.cells #[.slice X x.length cx, .slice Y y.length cy] 25)) := (Below.refl _ _).alloc (Nat.le_refl _) _
    have := concat2_any w2.heap.size X Y cx cy x y (w2.alloc (.cells #[.slice X x.length cx, .slice Y y.length cy] 25)) (by simp) (by simp) (by simp) ((HX.out.later hw).later hbv) ((HY.out.later hw).later hbv) (by omega)
    refine this.mono ?_
    rintro e w3 ⟨v, rfl, hO, hb⟩
    obtain ⟨R, cr, rfl, hU⟩ := hO.up
    exact ⟨R, cr, rfl, hU, hbv.trans (hb.mono hbv.size)⟩
  have CS : Hid (∀ w1, Below w.heap.size w w1 → Calls Try.prog 27 #[.func (.func 46) #[] #[.pointer (some ⟨w1.heap.size, 0, none⟩)]] (w1.alloc (.cells #[.slice X x.length cx] 25)) fun e w' => ∃ (R : Option Addr) (cr : Nat) (l' : List W64), e = .returned (.slice R x.length cr) ∧ l'.length = x.length ∧ compact l' = fuN x ∧ OU w' w1.heap.size (.slice R x.length cr) l' ∧ Below w1.heap.size w1 w') := fun w1 h => sortedV_any X cx x w1 (hx.later h) (by omega)
  have CT : Hid (∀ w1 A ca, UP w1 A ca (x ++ y) → Calls Try.prog 27 #[.func (.func 46) #[] #[.pointer (some ⟨w1.heap.size, 0, none⟩)]] (w1.alloc (.cells #[.slice A (x ++ y).length ca] 25)) fun e w' => ∃ (R : Option Addr) (cr : Nat) (l' : List W64), e = .returned (.slice R (x ++ y).length cr) ∧ l'.length = (x ++ y).length ∧ compact l' = fuN (x ++ y) ∧ OU w' w1.heap.size (.slice R (x ++ y).length cr) l' ∧ Below w1.heap.size w1 w') := fun w1 A ca h => sortedV_any A ca (x ++ y) w1 h (by rw [List.length_append]; omega)
  have CY2 : Hid (∀ (w1 : World) (z : W64), Below w.heap.size w w1 → Calls Try.prog 20 #[.slice Y y.length cy, .int .u64 (z.toNat : Int)] w1 fun e w' => e = .returned (.bool (decide (z ∈ y))) ∧ w' = w1) := fun w1 z h => containsU_any Y cy y z w1 (hy.later h)
  by_cases h : 1 ≤ r ∧ r ≤ 400
  · have ex := allF_ok (s := s) (l := x) h
    have ey := allF_ok (s := s) (l := y) h
    have ra := rt_sk (s := s) h x
    have rb := rt_sk (s := s) h y
    have j1 := joinF_sk (s := s) h x y
    have qu : skL s r (skL s r x ++ skL s r y) = skL s r (x ++ y) := ske_join (rk s) (fun x y => rk_inj) _ _ _
    have qa : skL s r (skL s r x ++ skL s r x) = skL s r x := by
      have : skL s r (skL s r x ++ skL s r x) = skL s r (x ++ x) := ske_join (rk s) (fun x y => rk_inj) _ _ _
      rw [this, skL_same]
    have c1 := comF_ok ra rb
    have c2 := comF_ok ra ra
    rw [qu] at c1
    rw [qa, cmn_self] at c2
    have hn := cmn_le s r x y (skL s r (x ++ y)) (skL_nodup s r _)
    have hall : ((fuN (x ++ y)).length : Int) ≤ r → cmnL (skL s r x) (skL s r y) (skL s r (x ++ y)) = botN x y ∧ (skL s r (x ++ y)).length = (fuN (x ++ y)).length := cmn_all
    have lA : (skL s r x).length ≤ 400 := by have := skL_len s r x (by omega); omega
    have lU : (skL s r (x ++ y)).length ≤ 400 := by have := skL_len s r (x ++ y) (by omega); omega
    have hlc : ∀ l : List W64, (fuN l).length ≤ l.length := fun l => ful_len _ l
    have lf := hlc x
    have lg := hlc (x ++ y)
    rw [List.length_append] at lg
    have hbot : Hid (botN x y = (fuN x).countP fun z => decide (z ∈ y)) := rfl
    have C1 : Hid (∀ R1 R2 k1 k2 w1, UP w1 R1 k1 (skL s r x) → UP w1 R2 k2 (skL s r y) → Calls Try.prog 15 #[.int .u64 (s.toNat : Int), .int .i64 r, .slice R1 (skL s r x).length k1, .slice R2 (skL s r y).length k2] w1 fun e w' => e = .returned (tup (((cmnL (skL s r x) (skL s r y) (skL s r (x ++ y)) : Nat) : Int), (((skL s r (x ++ y)).length : Nat) : Int), (0 : Int))) ∧ Below w1.heap.size w1 w') := fun R1 R2 k1 k2 w1 h1 h2 => by
      have := common_any s r R1 R2 k1 k2 (skL s r x) (skL s r y) w1 h1 h2
      rwa [c1] at this
    have C2 : Hid (∀ R1 k1 w1, UP w1 R1 k1 (skL s r x) → Calls Try.prog 15 #[.int .u64 (s.toNat : Int), .int .i64 r, .slice R1 (skL s r x).length k1, .slice R1 (skL s r x).length k1] w1 fun e w' => e = .returned (tup ((((skL s r x).length : Nat) : Int), (((skL s r x).length : Nat) : Int), (0 : Int))) ∧ Below w1.heap.size w1 w') := fun R1 k1 w1 h1 => by
      have := common_any s r R1 R1 k1 k1 (skL s r x) (skL s r x) w1 h1 h1
      rwa [c2] at this
    unfold tup at C1 C2
    rw [ex] at CX
    rw [ey] at CY
    have HALL := Lib.hid hall
    clear ex ey ra rb j1 qu qa c1 c2 h hall hx hy HX HY sx sy hlc
    generalize cmnL (skL s r x) (skL s r y) (skL s r (x ++ y)) = n at *
    generalize skL s r (x ++ y) = sU at *
    generalize skL s r x = sA at *
    generalize skL s r y = sB at *
    generalize fuN (x ++ y) = al at *
    obtain ⟨ow, how⟩ : ∃ ow, fuN x = ow := ⟨_, rfl⟩
    rw [how] at hbot CS lf
    clear how
    generalize botN x y = bo at *
    have hcp : ∀ l : List W64, l.countP (fun z => decide (z ∈ y)) ≤ l.length := fun l => List.countP_le_length
    have HCP := Lib.hid hcp
    clear hcp
    obtain ⟨xy, hxy⟩ : ∃ t, x ++ y = t := ⟨_, rfl⟩
    have lxy : xy.length ≤ 2097152 := by rw [← hxy, List.length_append]; omega
    rw [hxy] at CC CT
    clear hxy
    have lg2 : al.length ≤ 2097152 := by omega
    clear lg
    generalize x.length = nx at *
    generalize y.length = ny at *
    obtain ⟨na, hna⟩ : ∃ k, sA.length = k := ⟨_, rfl⟩
    obtain ⟨nb, hnb⟩ : ∃ k, sB.length = k := ⟨_, rfl⟩
    generalize sU.length = nu at *
    obtain ⟨nl, hnl⟩ : ∃ k, al.length = k := ⟨_, rfl⟩
    rw [hnl] at HALL lg2
    obtain ⟨no, hno⟩ : ∃ k, ow.length = k := ⟨_, rfl⟩
    rw [hno] at lf
    rw [hna, hnb] at C1
    rw [hna] at C2 lA
    have HNA := Lib.hid hna
    have HNB := Lib.hid hnb
    have HNL := Lib.hid hnl
    have HNO := Lib.hid hno
    have HBO : Hid (bo ≤ 1048576) := by have h1 := hbot.out; have h2 := HCP.out ow; show _ ≤ _; rw [h1]; omega
    have hbo := HBO.out
    clear hna hnb hnl hno
    go_enter Try.func9, Try.ntmps9
    go_wp2_with fail
    refine CA.out.mono ?_
    rintro e w1 ⟨rfl, hb⟩
    have HB := Lib.hid hb
    clear hb CA
    go_wp2_with fail
    refine (CX.out _ HB.out).mono ?_
    rintro e w2 ⟨v, rfl, hO, hb⟩
    obtain ⟨Ra, ca, rfl, hU⟩ := hO.up
    dsimp only at hU ⊢
    rw [HNA.out]
    have HB := Lib.hid (HB.out.trans (hb.mono HB.out.size))
    have Ua := Lib.hid hU
    clear hb hO hU CX
    go_wp2_with fail
    refine (CY.out _ HB.out).mono ?_
    rintro e w3 ⟨v, rfl, hO, hb⟩
    obtain ⟨Rb, cb, rfl, hU⟩ := hO.up
    dsimp only at hU ⊢
    rw [HNB.out]
    have HB := Lib.hid (HB.out.trans (hb.mono HB.out.size))
    have Ua := Lib.hid (Ua.out.later hb)
    have C1 := Lib.hid (C1.out Ra Rb ca cb w3 Ua.out hU)
    clear hb hO hU CY
    go_wp2_with fail
    refine C1.out.mono ?_
    rintro e w4 ⟨rfl, hb⟩
    have HB := Lib.hid (HB.out.trans (hb.mono HB.out.size))
    have Ua := Lib.hid (Ua.out.later hb)
    have C2 := Lib.hid (C2.out Ra ca w4 Ua.out)
    clear hb C1
    go_wp2_with fail
    refine C2.out.mono ?_
    rintro e w5 ⟨rfl, hb⟩
    have HB := Lib.hid (HB.out.trans (hb.mono HB.out.size))
    clear hb C2 Ua
    have V := Lib.hid (uvalues_any X nx cx w5)
    have S := Lib.hid (CS.out w5 HB.out)
    clear CS
    go_wp2_with fail
    refine V.out.mono ?_
    rintro e w6 ⟨rfl, rfl⟩
    clear V
    go_wp2_with fail
    refine S.out.mono ?_
    rintro e w6 ⟨R, cr, l', rfl, hl', hc, hO, hb⟩
    have HS5 := Lib.hid HB.out.size
    have HB := Lib.hid (HB.out.trans (hb.mono HB.out.size))
    have K := Lib.hid (compactU_any w5.heap.size nx R cr l' w6 hl' hO hb.size)
    rw [hc, HNO.out] at K
    clear hb hO hc hl' S
    go_wp2_with fail
    refine K.out.mono ?_
    rintro e w7 ⟨rfl, hO, hb⟩
    have HB := Lib.hid (HB.out.trans (hb.mono HS5.out))
    have HO := Lib.hid (hO.upv HNO.out)
    clear K hO hb
    go_wp2_with fail
    go_loopw [20, 73] (fun bv iv wr => ∃ k : Nat, k ≤ no ∧ iv = .int .i64 k ∧ bv = .int .i64 (((ow.take k).countP fun z => decide (z ∈ y) : Nat) : Int) ∧ wr = w7) (fun _ iv _ => no - (intOf iv).toNat)
    case atStart => exact ⟨0, by omega, rfl, rfl, rfl⟩
    case round =>
      obtain ⟨k, hk, rfl, rfl, rfl⟩ := hrel
      have hcl := Nat.le_trans (HCP.out (ow.take k)) (by rw [List.length_take]; exact Nat.min_le_left _ _ : (ow.take k).length ≤ k)
      by_cases hlt : k < no
      · obtain ⟨bl, off, rfl, _, hcell⟩ := HO.out.ul.at (by rw [HNO.out]; omega)
        have ck := hcell k (by rw [HNO.out]; exact hlt)
        have htk : ow.take (k + 1) = ow.take k ++ [ow.getD k 0] := by
          have hk2 : k < ow.length := by rw [HNO.out]; exact hlt
          rw [List.take_add_one]; simp [List.getD_eq_getElem?_getD, hk2]
        have HS2 := Lib.hid (botN_snoc (ow.take k) y (ow.getD k 0))
        rw [← htk] at HS2
        clear hcell htk
        have i1 : (k : Int) < (no : Int) := by omega
        generalize ow.getD k 0 = z at *
        have CZ := Lib.hid (CY2.out wr z HB.out)
        generalize decide (z ∈ y) = dz at *
        generalize (ow.take k).countP (fun z => decide (z ∈ y)) = cn at *
        generalize hcn2 : (ow.take (k + 1)).countP (fun z => decide (z ∈ y)) = cn2 at *
        have HC2 := Lib.hid hcn2
        clear hcn2
        go_wp2_with fail
        refine CZ.out.mono ?_
        rintro e w8 ⟨rfl, rfl⟩
        cases dz
        · have e2 := HS2.out
          simp at e2
          have HE := Lib.hid e2
          clear e2 HS2
          go_wp2
          go_roundw
          case rel => exact ⟨k + 1, by omega, by go_num, by rw [HC2.out, HE.out], trivial⟩
          case measure => simp [intOf]; omega
        · have e2 := HS2.out
          simp at e2
          have HE := Lib.hid e2
          clear e2 HS2
          go_wp2
          go_roundw
          case rel => exact ⟨k + 1, by omega, by go_num, by rw [HC2.out, HE.out]; rfl, trivial⟩
          case measure => simp [intOf]; omega
      · obtain rfl : k = no := by omega
        have HT : Hid (((ow.take k).countP fun z => decide (z ∈ y)) = bo) := by
          have h1 := hbot.out
          show _ = _
          rw [h1, ← HNO.out, List.take_length]
        rw [HT.out]
        clear HO HT hcl CY2
        go_wp2_with fail
        refine (CC.out _ HB.out).mono ?_
        rintro e w8 ⟨Rt, ct, rfl, hU, hb⟩
        have HB := Lib.hid (HB.out.trans (hb.mono HB.out.size))
        have V := Lib.hid (uvalues_any Rt xy.length ct w8)
        have S := Lib.hid (CT.out w8 Rt ct hU)
        clear hb hU CC CT
        go_wp2_with fail
        refine V.out.mono ?_
        rintro e w9 ⟨rfl, rfl⟩
        clear V
        go_wp2_with fail
        refine S.out.mono ?_
        rintro e w9 ⟨R2, c2, l2, rfl, hl', hc, hO, hb⟩
        have K := Lib.hid (compactU_any w8.heap.size xy.length R2 c2 l2 w9 hl' hO hb.size)
        rw [hc, HNL.out] at K
        have HB9 := Lib.hid (HB.out.trans (hb.mono HB.out.size))
        have HS8 := Lib.hid HB.out.size
        clear hb hO hc hl' S
        go_wp2_with fail
        refine K.out.mono ?_
        rintro e w10 ⟨rfl, _, hb⟩
        have HB10 := Lib.hid (HB9.out.trans (hb.mono HS8.out))
        clear hb K
        by_cases hr : r < (nl : Int)
        · go_wp2
          go_ret
          exact ⟨rfl, HB10.out⟩
        · obtain ⟨rfl, rfl⟩ := HALL.out (by omega)
          go_wp2
          go_ret
          exact ⟨rfl, HB10.out⟩
  · have ex := allF_bad (s := s) (l := x) h
    have ey := allF_bad (s := s) (l := y) h
    rw [ex] at CX
    rw [ey] at CY
    clear ex ey h hx hy HX HY CC CS CT CY2
    go_enter Try.func9, Try.ntmps9
    go_wp2_with fail
    refine CA.out.mono ?_
    rintro e w1 ⟨rfl, hb⟩
    have HB := Lib.hid hb
    clear hb CA
    go_wp2_with fail
    refine (CX.out _ HB.out).mono ?_
    rintro e w2 ⟨v, rfl, hO, hb⟩
    obtain ⟨Ra, ca, rfl, hU⟩ := hO.up
    dsimp only at hU ⊢
    have HB := Lib.hid (HB.out.trans (hb.mono HB.out.size))
    clear hb hO hU CX
    go_wp2_with fail
    refine (CY.out _ HB.out).mono ?_
    rintro e w3 ⟨v, rfl, hO, hb⟩
    obtain ⟨Rb, cb, rfl, hU⟩ := hO.up
    dsimp only at hU ⊢
    have HB := Lib.hid (HB.out.trans (hb.mono HB.out.size))
    clear hb hO hU CY
    go_wp2
    go_ret
    exact ⟨rfl, HB.out⟩
end Go.Proofs.Ytnihcpaakbhpcaa
