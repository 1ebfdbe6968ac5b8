/- lotdrawerkeep.BottomParts: the walk (up to a bulk). -/
import Derived.Test.YtnihcpaakbhpcaaG9
import Derived.Test.YtnihcpaakbhpcaaG6
namespace Go.Proofs.Ytnihcpaakbhpcaa
open Go.RowKit Go.Deep

theorem rt_sk {s : W64} {r : Int} (h : 1 ≤ r ∧ r ≤ 400) (l : List W64) : RtP s r (skL s r l) := ⟨⟨h, skL_len s r l (by omega)⟩, ske_ra (rk s) (fun x y => rk_inj) _ _⟩
theorem joinF_sk {s : W64} {r : Int} (h : 1 ≤ r ∧ r ≤ 400) (l m : List W64) : joinF s r (skL s r l) (skL s r m) = (skL s r (l ++ m), 0) := by
  unfold joinF
  rw [if_pos ⟨rt_sk h l, rt_sk h m⟩]
  exact congrArg (·, (0 : Int)) (ske_join (rk s) (fun x y => rk_inj) _ _ _)
theorem skL_congr {s : W64} {r : Int} {l m : List W64} (h : ∀ x, x ∈ l ↔ x ∈ m) : skL s r l = skL s r m := ske_congr (rk s) (fun x y => rk_inj) h _
theorem skL_same {s : W64} {r : Int} (l : List W64) : skL s r (l ++ l) = skL s r l := skL_congr fun x => by simp

set_option maxRecDepth 100000 in
set_option maxHeartbeats 4000000 in
theorem bottomParts_walk (s : W64) (r : Int) (X Y Z : Option Addr) (cx cy cz : Nat) (x y z : List W64) (w : World) (hx : UP w X cx x) (hy : UP w Y cy y) (hz : UP w Z cz z) (sx : cx ≤ 1048576) (sy : cy ≤ 1048576) (sz : cz ≤ 1048576) :
    Calls Try.prog 7 #[.int .u64 (s.toNat : Int), .int .i64 r, .slice X x.length cx, .slice Y y.length cy, .slice Z z.length cz] w fun e w' => e = .returned (.bool true) ∧ Below w.heap.size w w' := by
  have lx : x.length ≤ 1048576 := Nat.le_trans hx.le sx
  have ly : y.length ≤ 1048576 := Nat.le_trans hy.le sy
  have lz : z.length ≤ 1048576 := Nat.le_trans hz.le sz
  have CA := Lib.hid (alive12_any w)
  have HX := Lib.hid hx
  have HY := Lib.hid hy
  have HZ := Lib.hid hz
  have CX : Hid (∀ w1, Below w.heap.size w w1 → Calls Try.prog 16 #[.int .u64 (s.toNat : Int), .int .i64 r, .slice X x.length cx] w1 (UOPost w1 (allF s r x))) := fun w1 h => all_any s r X cx x w1 (hx.later h) (by omega)
  have CY : Hid (∀ w1, Below w.heap.size w w1 → Calls Try.prog 16 #[.int .u64 (s.toNat : Int), .int .i64 r, .slice Y y.length cy] w1 (UOPost w1 (allF s r y))) := fun w1 h => all_any s r Y cy y w1 (hy.later h) (by omega)
  have CZ : Hid (∀ w1, Below w.heap.size w w1 → Calls Try.prog 16 #[.int .u64 (s.toNat : Int), .int .i64 r, .slice Z z.length cz] w1 (UOPost w1 (allF s r z))) := fun w1 h => all_any s r Z cz z w1 (hz.later h) (by omega)
  have CC : Hid (∀ w2, Below w.heap.size w w2 → Calls Try.prog 25 #[.slice (some ⟨w2.heap.size, 0, none⟩) 3 3] (w2.alloc (.cells #[.slice X x.length cx, .slice Y y.length cy, .slice Z z.length cz] 25)) fun e w' => ∃ v, e = .returned v ∧ OU w' (w2.heap.size + 1) v (x ++ (y ++ z)) ∧ Below (w2.heap.size + 1) (w2.alloc (.cells #[.slice X x.length cx, .slice Y y.length cy, .slice Z z.length cz] 25)) w') := fun w2 hw => by
    have hbv : Below w2.heap.size w2 (w2.alloc (.cells #[.slice X x.length cx, .slice Y y.length cy, .slice Z z.length cz] 25)) := (Below.refl _ _).alloc (Nat.le_refl _) _
    have := concat3_any w2.heap.size X Y Z cx cy cz x y z (w2.alloc (.cells #[.slice X x.length cx, .slice Y y.length cy, .slice Z z.length cz] 25)) (by simp) (by simp) (by simp) (by simp) ((HX.out.later hw).later hbv) ((HY.out.later hw).later hbv) ((HZ.out.later hw).later hbv) (by omega)
    rwa [World.size_alloc] at this
  have hlt : (x ++ (y ++ z)).length ≤ 17592186044416 := by rw [List.length_append, List.length_append]; omega
  obtain ⟨t, ht⟩ : ∃ t, x ++ (y ++ z) = t := ⟨_, rfl⟩
  rw [ht] at CC hlt
  by_cases h : 1 ≤ r ∧ r ≤ 400
  · have ex := allF_ok (s := s) (l := x) h
    have ey := allF_ok (s := s) (l := y) h
    have ez := allF_ok (s := s) (l := z) h
    have et := allF_ok (s := s) (l := t) h
    have j1 := joinF_sk (s := s) h x y
    have j2 := joinF_sk (s := s) h (x ++ y) z
    have j3 := joinF_sk (s := s) h z y
    have j4 := joinF_sk (s := s) h (z ++ y) x
    have j5 := joinF_sk (s := s) h x x
    have q2 : skL s r (x ++ y ++ z) = skL s r t := skL_congr fun e => by rw [← ht]; simp
    have q4 : skL s r (z ++ y ++ x) = skL s r t := skL_congr fun e => by rw [← ht]; simp only [List.mem_append]; grind
    have q5 : skL s r (x ++ x) = skL s r x := skL_same x
    rw [q2] at j2
    rw [q4] at j4
    rw [q5] at j5
    have lA : (skL s r x).length ≤ 400 := by have := skL_len s r x (by omega); omega
    have lT : (skL s r t).length ≤ 400 := by have := skL_len s r t (by omega); omega
    rw [ex] at CX
    rw [ey] at CY
    rw [ez] at CZ
    clear ex ey ez q2 q4 q5 ht h lx ly lz sx sy sz hx hy hz HX HY HZ
    generalize skL s r x = sA at *
    generalize skL s r y = sB at *
    generalize skL s r z = sC at *
    generalize skL s r (x ++ y) = sAB at *
    generalize skL s r (z ++ y) = sCB at *
    generalize x.length = nx at *
    generalize y.length = ny at *
    generalize z.length = nz at *
    go_enter Try.func7, Try.ntmps7
    go_wp2_with fail
    refine CA.out.mono ?_
    rintro e w1 ⟨rfl, hb⟩
    have HB := Lib.hid hb
    clear hb CA
    go_wp2_with fail
    refine (CX.out _ HB.out).mono ?_
    rintro e w2 ⟨v, rfl, hO, hb⟩
    obtain ⟨Ra, ca, rfl, hU⟩ := hO.up
    dsimp only at hU ⊢
    have HB := Lib.hid (HB.out.trans (hb.mono HB.out.size))
    have Ua := Lib.hid hU
    clear hb hO hU
    go_wp2_with fail
    refine (CY.out _ HB.out).mono ?_
    rintro e w3 ⟨v, rfl, hO, hb⟩
    obtain ⟨Rb, cb, rfl, hU⟩ := hO.up
    dsimp only at hU ⊢
    have HB := Lib.hid (HB.out.trans (hb.mono HB.out.size))
    have Ua := Lib.hid (Ua.out.later hb)
    have Ub := Lib.hid hU
    clear hb hO hU
    go_wp2_with fail
    refine (CZ.out _ HB.out).mono ?_
    rintro e w4 ⟨v, rfl, hO, hb⟩
    obtain ⟨Rc, cc, rfl, hU⟩ := hO.up
    dsimp only at hU ⊢
    have HB := Lib.hid (HB.out.trans (hb.mono HB.out.size))
    have Ua := Lib.hid (Ua.out.later hb)
    have Ub := Lib.hid (Ub.out.later hb)
    have Uc := Lib.hid hU
    clear hb hO hU
    go_wp2_with fail
    refine (CC.out w4 HB.out).mono ?_
    rintro e w5 ⟨v, rfl, hO, hb⟩
    obtain ⟨Rt, ct, rfl, hU⟩ := hO.up
    have hb0 : Below w4.heap.size w4 (w4.alloc (.cells #[.slice X nx cx, .slice Y ny cy, .slice Z nz cz] 25)) := (Below.refl _ _).alloc (Nat.le_refl _) _
    have hb1 : Below w4.heap.size w4 w5 := hb0.trans (hb.mono (by omega))
    have HB := Lib.hid (HB.out.trans (hb1.mono HB.out.size))
    have Ua := Lib.hid (Ua.out.later hb1)
    have Ub := Lib.hid (Ub.out.later hb1)
    have Uc := Lib.hid (Uc.out.later hb1)
    have CT := Lib.hid (all_any s r Rt ct t w5 hU hlt)
    rw [et] at CT
    clear hb hO hU hb0 hb1 CC CX CY CZ et
    generalize t.length = nt at *
    go_wp2_with fail
    refine (CT.out).mono ?_
    rintro e w6 ⟨v, rfl, hO, hb⟩
    obtain ⟨Rt, ct, rfl, hU⟩ := hO.up
    dsimp only at hU ⊢
    have HB := Lib.hid (HB.out.trans (hb.mono HB.out.size))
    have Ua := Lib.hid (Ua.out.later hb)
    have Ub := Lib.hid (Ub.out.later hb)
    have Uc := Lib.hid (Uc.out.later hb)
    have Ut := Lib.hid hU
    clear hb hO hU
    clear CT
    have CJ := Lib.hid (join_any s r Ra Rb ca cb sA sB w6 Ua.out Ub.out)
    rw [j1] at CJ
    go_wp2_with fail
    refine (CJ.out).mono ?_
    rintro e w7 ⟨v, rfl, hO, hb⟩
    obtain ⟨Rab, cab, rfl, hU⟩ := hO.up
    dsimp only at hU ⊢
    have HB := Lib.hid (HB.out.trans (hb.mono HB.out.size))
    have Ua := Lib.hid (Ua.out.later hb)
    have Ub := Lib.hid (Ub.out.later hb)
    have Uc := Lib.hid (Uc.out.later hb)
    have Ut := Lib.hid (Ut.out.later hb)
    have Uab := Lib.hid hU
    clear hb hO hU
    clear CJ j1
    have CJ := Lib.hid (join_any s r Rab Rc cab cc sAB sC w7 Uab.out Uc.out)
    rw [j2] at CJ
    go_wp2_with fail
    refine (CJ.out).mono ?_
    rintro e w8 ⟨v, rfl, hO, hb⟩
    obtain ⟨Rone, cone, rfl, hU⟩ := hO.up
    dsimp only at hU ⊢
    have HB := Lib.hid (HB.out.trans (hb.mono HB.out.size))
    have Ua := Lib.hid (Ua.out.later hb)
    have Ub := Lib.hid (Ub.out.later hb)
    have Uc := Lib.hid (Uc.out.later hb)
    have Ut := Lib.hid (Ut.out.later hb)
    have Uone := Lib.hid hU
    clear hb hO hU
    clear CJ j2
    have CJ := Lib.hid (join_any s r Rc Rb cc cb sC sB w8 Uc.out Ub.out)
    rw [j3] at CJ
    go_wp2_with fail
    refine (CJ.out).mono ?_
    rintro e w9 ⟨v, rfl, hO, hb⟩
    obtain ⟨Rcb, ccb, rfl, hU⟩ := hO.up
    dsimp only at hU ⊢
    have HB := Lib.hid (HB.out.trans (hb.mono HB.out.size))
    have Ua := Lib.hid (Ua.out.later hb)
    have Ut := Lib.hid (Ut.out.later hb)
    have Uone := Lib.hid (Uone.out.later hb)
    have Ucb := Lib.hid hU
    clear hb hO hU
    clear CJ j3
    have CJ := Lib.hid (join_any s r Rcb Ra ccb ca sCB sA w9 Ucb.out Ua.out)
    rw [j4] at CJ
    go_wp2_with fail
    refine (CJ.out).mono ?_
    rintro e w10 ⟨v, rfl, hO, hb⟩
    obtain ⟨Rtwo, ctwo, rfl, hU⟩ := hO.up
    dsimp only at hU ⊢
    have HB := Lib.hid (HB.out.trans (hb.mono HB.out.size))
    have Ua := Lib.hid (Ua.out.later hb)
    have Ut := Lib.hid (Ut.out.later hb)
    have Uone := Lib.hid (Uone.out.later hb)
    have Utwo := Lib.hid hU
    clear hb hO hU
    clear CJ j4
    have CJ := Lib.hid (join_any s r Ra Ra ca ca sA sA w10 Ua.out Ua.out)
    rw [j5] at CJ
    go_wp2_with fail
    refine (CJ.out).mono ?_
    rintro e w11 ⟨v, rfl, hO, hb⟩
    obtain ⟨Rsame, csame, rfl, hU⟩ := hO.up
    dsimp only at hU ⊢
    have HB := Lib.hid (HB.out.trans (hb.mono HB.out.size))
    have Ua := Lib.hid (Ua.out.later hb)
    have Ut := Lib.hid (Ut.out.later hb)
    have Uone := Lib.hid (Uone.out.later hb)
    have Utwo := Lib.hid (Utwo.out.later hb)
    have Usame := Lib.hid hU
    clear hb hO hU
    clear CJ j5
    generalize skL s r t = sT at *
    have h1 := Uone.out.cap
    have h2 := Ut.out.cap
    have CE := Lib.hid (uequal_any Rone Rt cone ct sT sT w11 Uone.out.ul Ut.out.ul (by omega) (by omega))
    simp only [decide_true] at CE
    clear h1 h2
    go_wp2_with fail
    refine CE.out.mono ?_
    rintro e w12 ⟨rfl, hb⟩
    have HB := Lib.hid (HB.out.trans (hb.mono HB.out.size))
    have Ut := Lib.hid (Ut.out.later hb)
    have Utwo := Lib.hid (Utwo.out.later hb)
    have Usame := Lib.hid (Usame.out.later hb)
    have Ua := Lib.hid (Ua.out.later hb)
    clear hb CE
    have h1 := Utwo.out.cap
    have h2 := Ut.out.cap
    have CE := Lib.hid (uequal_any Rtwo Rt ctwo ct sT sT w12 Utwo.out.ul Ut.out.ul (by omega) (by omega))
    simp only [decide_true] at CE
    clear h1 h2
    go_wp2_with fail
    refine CE.out.mono ?_
    rintro e w13 ⟨rfl, hb⟩
    have HB := Lib.hid (HB.out.trans (hb.mono HB.out.size))
    have Usame := Lib.hid (Usame.out.later hb)
    have Ua := Lib.hid (Ua.out.later hb)
    clear hb CE
    have h1 := Usame.out.cap
    have h2 := Ua.out.cap
    have CE := Lib.hid (uequal_any Rsame Ra csame ca sA sA w13 Usame.out.ul Ua.out.ul (by omega) (by omega))
    simp only [decide_true] at CE
    clear h1 h2
    go_wp2_with fail
    refine CE.out.mono ?_
    rintro e w14 ⟨rfl, hb⟩
    have HB := Lib.hid (HB.out.trans (hb.mono HB.out.size))
    clear hb CE
    go_wp2
    go_ret
    exact ⟨rfl, HB.out⟩
  · have ex := allF_bad (s := s) (l := x) h
    have ey := allF_bad (s := s) (l := y) h
    have ez := allF_bad (s := s) (l := z) h
    have et := allF_bad (s := s) (l := t) h
    rw [ex] at CX
    rw [ey] at CY
    rw [ez] at CZ
    clear ex ey ez ht h lx ly lz sx sy sz hx hy hz HX HY HZ
    generalize x.length = nx at *
    generalize y.length = ny at *
    generalize z.length = nz at *
    go_enter Try.func7, Try.ntmps7
    go_wp2_with fail
    refine CA.out.mono ?_
    rintro e w1 ⟨rfl, hb⟩
    have HB := Lib.hid hb
    clear hb CA
    go_wp2_with fail
    refine (CX.out _ HB.out).mono ?_
    rintro e w2 ⟨v, rfl, hO, hb⟩
    obtain ⟨Ra, ca, rfl, hU⟩ := hO.up
    dsimp only at hU ⊢
    have HB := Lib.hid (HB.out.trans (hb.mono HB.out.size))
    have Ua := Lib.hid hU
    clear hb hO hU
    go_wp2_with fail
    refine (CY.out _ HB.out).mono ?_
    rintro e w3 ⟨v, rfl, hO, hb⟩
    obtain ⟨Rb, cb, rfl, hU⟩ := hO.up
    dsimp only at hU ⊢
    have HB := Lib.hid (HB.out.trans (hb.mono HB.out.size))
    have Ua := Lib.hid (Ua.out.later hb)
    have Ub := Lib.hid hU
    clear hb hO hU
    go_wp2_with fail
    refine (CZ.out _ HB.out).mono ?_
    rintro e w4 ⟨v, rfl, hO, hb⟩
    obtain ⟨Rc, cc, rfl, hU⟩ := hO.up
    dsimp only at hU ⊢
    have HB := Lib.hid (HB.out.trans (hb.mono HB.out.size))
    have Ua := Lib.hid (Ua.out.later hb)
    have Ub := Lib.hid (Ub.out.later hb)
    have Uc := Lib.hid hU
    clear hb hO hU
    go_wp2_with fail
    refine (CC.out w4 HB.out).mono ?_
    rintro e w5 ⟨v, rfl, hO, hb⟩
    obtain ⟨Rt, ct, rfl, hU⟩ := hO.up
    have hb0 : Below w4.heap.size w4 (w4.alloc (.cells #[.slice X nx cx, .slice Y ny cy, .slice Z nz cz] 25)) := (Below.refl _ _).alloc (Nat.le_refl _) _
    have hb1 : Below w4.heap.size w4 w5 := hb0.trans (hb.mono (by omega))
    have HB := Lib.hid (HB.out.trans (hb1.mono HB.out.size))
    have Ua := Lib.hid (Ua.out.later hb1)
    have Ub := Lib.hid (Ub.out.later hb1)
    have Uc := Lib.hid (Uc.out.later hb1)
    have CT := Lib.hid (all_any s r Rt ct t w5 hU hlt)
    rw [et] at CT
    clear hb hO hU hb0 hb1 CC CX CY CZ et
    generalize t.length = nt at *
    go_wp2_with fail
    refine (CT.out).mono ?_
    rintro e w6 ⟨v, rfl, hO, hb⟩
    obtain ⟨Rt, ct, rfl, hU⟩ := hO.up
    dsimp only at hU ⊢
    have HB := Lib.hid (HB.out.trans (hb.mono HB.out.size))
    have Ua := Lib.hid (Ua.out.later hb)
    have Ub := Lib.hid (Ub.out.later hb)
    have Uc := Lib.hid (Uc.out.later hb)
    have Ut := Lib.hid hU
    clear hb hO hU
    clear CT
    go_wp2
    go_ret
    exact ⟨rfl, HB.out⟩
end Go.Proofs.Ytnihcpaakbhpcaa
