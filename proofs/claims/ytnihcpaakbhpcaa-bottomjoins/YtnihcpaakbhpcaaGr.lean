import Derived.Test.YtnihcpaakbhpcaaJn6
import Derived.Test.YtnihcpaakbhpcaaGc
import Derived.Test.YtnihcpaakbhpcaaJn7
/- lotdrawerlaw.BottomJoins: the walk. -/
namespace Go.Proofs.Ytnihcpaakbhpcaa
open Go.RowKit Go.Deep

theorem comF_join (s : W64) (r : Int) (a b : List W64) : comF s r a b = (((cmnL a b (joinF s r a b).1 : Nat) : Int), (((joinF s r a b).1.length : Nat) : Int), (joinF s r a b).2) := by
  unfold comF joinF
  by_cases h : RtP s r a ∧ RtP s r b
  · rw [if_pos h, if_pos h]
  · rw [if_neg h, if_neg h]; rfl
theorem joinF_len (s : W64) (r : Int) (a b : List W64) : (joinF s r a b).1.length ≤ 400 := by
  unfold joinF
  by_cases h : RtP s r a ∧ RtP s r b
  · rw [if_pos h]
    have := skL_len s r (a ++ b) (by have := h.1.1.1.1; omega)
    have := h.1.1.1.2
    show (skL s r (a ++ b)).length ≤ 400
    omega
  · rw [if_neg h]; simp

set_option maxRecDepth 100000 in
set_option maxHeartbeats 4000000 in
theorem bottomJoins_walk (s : W64) (r : Int) (A1 A2 A3 : Option Addr) (c1 c2 c3 : Nat) (a b l : List W64) (w : World) (ha : UP w A1 c1 a) (hb : UP w A2 c2 b) (hl : UP w A3 c3 l) (hs : l.length ≤ 17592186044416) :
    Calls Try.prog 4 #[.int .u64 (s.toNat : Int), .int .i64 r, .slice A1 a.length c1, .slice A2 b.length c2, .slice A3 l.length c3] w fun e w' => e = .returned (.bool true) ∧ Below w.heap.size w w' := by
  have HA := Lib.hid ha
  have HB := Lib.hid hb
  have CJ := Lib.hid (join_any s r A1 A2 c1 c2 a b w ha hb)
  have CL : Hid (∀ w1, Below w.heap.size w w1 → Calls Try.prog 14 #[.int .u64 (s.toNat : Int), .int .i64 r, .slice A1 a.length c1, .slice A2 b.length c2] w1 (UOPost w1 (joinF s r a b))) := fun w1 h => ljoin_any s r A1 A2 c1 c2 a b w1 (ha.later h) (hb.later h)
  have CC : Hid (∀ w1, Below w.heap.size w w1 → Calls Try.prog 15 #[.int .u64 (s.toNat : Int), .int .i64 r, .slice A1 a.length c1, .slice A2 b.length c2] w1 fun e w' => e = .returned (tup (comF s r a b)) ∧ Below w1.heap.size w1 w') := fun w1 h => common_any s r A1 A2 c1 c2 a b w1 (ha.later h) (hb.later h)
  have CA : Hid (∀ w1, Below w.heap.size w w1 → Calls Try.prog 16 #[.int .u64 (s.toNat : Int), .int .i64 r, .slice A3 l.length c3] w1 (UOPost w1 (allF s r l))) := fun w1 h => all_any s r A3 c3 l w1 (hl.later h) hs
  have CR : Hid (∀ w1, Below w.heap.size w w1 → Calls Try.prog 17 #[.int .u64 (s.toNat : Int), .int .i64 r, .slice A1 a.length c1] w1 fun e w' => e = .returned (.bool (decide (RtP s r a))) ∧ Below w1.heap.size w1 w') := fun w1 h => right_any s r A1 c1 a w1 (ha.later h)
  have CQ : Hid (∀ w1, Below w.heap.size w w1 → Calls Try.prog 18 #[.int .u64 (s.toNat : Int), .int .i64 r, .slice A1 a.length c1] w1 fun e w' => e = .returned (.bool (decide (RtP s r a))) ∧ Below w1.heap.size w1 w') := fun w1 h => lright_any s r A1 c1 a w1 (ha.later h)
  have CN1 : Hid (∀ (x : W64) (w1 : World), Below w.heap.size w w1 → Calls Try.prog 20 #[.slice A1 a.length c1, .int .u64 (x.toNat : Int)] w1 fun e w' => e = .returned (.bool (decide (x ∈ a))) ∧ w' = w1) := fun x w1 h => containsU_any A1 c1 a x w1 (ha.later h)
  have CN2 : Hid (∀ (x : W64) (w1 : World), Below w.heap.size w w1 → Calls Try.prog 20 #[.slice A2 b.length c2, .int .u64 (x.toNat : Int)] w1 fun e w' => e = .returned (.bool (decide (x ∈ b))) ∧ w' = w1) := fun x w1 h => containsU_any A2 c2 b x w1 (hb.later h)
  have CE : Hid (1 ≤ r → r ≤ 400 → ∀ w1, Below w.heap.size w w1 → Calls Try.prog 21 #[.int .u64 (s.toNat : Int), .int .i64 r, .slice A3 l.length c3] w1 (UPost w1 (skL s r l))) := fun h1 h2 w1 h => lleast_any s r A3 c3 l w1 (hl.later h) h1 h2 hs
  rw [comF_join] at CC
  have hu := joinF_len s r a b
  have hall : (1 ≤ r ∧ r ≤ 400 ∧ allF s r l = (skL s r l, 0) ∧ (skL s r l).length ≤ 400) ∨ ((r < 1 ∨ 400 < r) ∧ allF s r l = ([], 2)) := by
    by_cases h : 1 ≤ r ∧ r ≤ 400
    · exact .inl ⟨h.1, h.2, allF_ok h, by have := skL_len s r l (by omega); omega⟩
    · exact .inr ⟨by omega, allF_bad h⟩
  have HALL := Lib.hid hall
  have HCM : Hid (∀ u x, cmnL a b (u ++ [x]) = cmnL a b u + if (decide (x ∈ a) && decide (x ∈ b)) = true then 1 else 0) := fun u x => cmnL_snoc a b u x
  have HCL : Hid (∀ u, cmnL a b u ≤ u.length) := fun u => cmnL_le a b u
  have HC0 : Hid (cmnL a b [] = 0) := rfl
  generalize joinF s r a b = p at *
  obtain ⟨u, er⟩ := p
  dsimp only at CC hu
  unfold tup at CC
  dsimp only at CC
  generalize hda : decide (RtP s r a) = dr at *
  generalize hcf : cmnL a b = cm at *
  obtain ⟨nu, hnu⟩ : ∃ n, u.length = n := ⟨_, rfl⟩
  have HNU := Lib.hid hnu
  rw [hnu] at CC hu
  generalize a.length = na at *
  generalize b.length = nb at *
  generalize l.length = nl at *
  have t1 : (dr != dr) = false := by cases dr <;> rfl
  have t2 : (er != er) = false := by simp
  clear hall ha hb hl hda hcf hnu
  go_enter Try.func4, Try.ntmps4
  go_wp2_with fail
  refine CJ.out.mono ?_
  rintro e w1 ⟨v, rfl, hO, hb1⟩
  obtain ⟨Rx, cx, rfl, hU⟩ := hO.up
  dsimp only at hU ⊢
  rw [HNU.out]
  have HB1 := Lib.hid hb1
  have UX := Lib.hid hU
  clear hO hb1 hU CJ
  go_wp2_with fail
  refine (CL.out _ HB1.out).mono ?_
  rintro e w2 ⟨v, rfl, hO, hb2⟩
  obtain ⟨Ry, cy, rfl, hU⟩ := hO.up
  dsimp only at hU ⊢
  rw [HNU.out]
  have HB2 := Lib.hid (HB1.out.trans (hb2.mono HB1.out.size))
  have UX := Lib.hid (UX.out.later hb2)
  have UY := Lib.hid hU
  clear hO hb2 hU CL HB1
  go_wp2_with fail
  refine (CC.out _ HB2.out).mono ?_
  rintro e w3 ⟨rfl, hb3⟩
  have HB3 := Lib.hid (HB2.out.trans (hb3.mono HB2.out.size))
  have UX := Lib.hid (UX.out.later hb3)
  have UY := Lib.hid (UY.out.later hb3)
  clear hb3 CC HB2
  go_wp2_with fail
  refine (CA.out _ HB3.out).mono ?_
  rintro e w4 ⟨v, rfl, hO, hb4⟩
  obtain ⟨Rl, cl, rfl, hU⟩ := hO.up
  have HB4 := Lib.hid (HB3.out.trans (hb4.mono HB3.out.size))
  have UX := Lib.hid (UX.out.later hb4)
  have UY := Lib.hid (UY.out.later hb4)
  have UL := Lib.hid hU
  generalize hal : allF s r l = al at *
  obtain ⟨ul, el⟩ := al
  dsimp only at UL ⊢
  clear hO hb4 hU CA HB3 hal
  obtain ⟨nul, hnul⟩ : ∃ n, ul.length = n := ⟨_, rfl⟩
  have HNUL := Lib.hid hnul
  rw [hnul]
  clear hnul
  go_wp2_with fail
  refine (CR.out _ HB4.out).mono ?_
  rintro e w5 ⟨rfl, hb5⟩
  have HB5 := Lib.hid (HB4.out.trans (hb5.mono HB4.out.size))
  have UX := Lib.hid (UX.out.later hb5)
  have UY := Lib.hid (UY.out.later hb5)
  have UL := Lib.hid (UL.out.later hb5)
  clear hb5 CR HB4
  go_wp2_with fail
  refine (CQ.out _ HB5.out).mono ?_
  rintro e w6 ⟨rfl, hb6⟩
  have HB6 := Lib.hid (HB5.out.trans (hb6.mono HB5.out.size))
  have UX := Lib.hid (UX.out.later hb6)
  have UY := Lib.hid (UY.out.later hb6)
  have UL := Lib.hid (UL.out.later hb6)
  clear hb6 CQ HB5
  have h1 := UX.out.cap
  have h2 := UY.out.cap
  have h3 := HNU.out
  have CU := uequal_any Rx Ry cx cy u u w6 UX.out.ul UY.out.ul (by omega) (by omega)
  simp only [decide_true] at CU
  rw [HNU.out] at CU
  have CU := Lib.hid CU
  clear h1 h2 h3
  go_wp2_with fail
  refine CU.out.mono ?_
  rintro e w7 ⟨rfl, hb7⟩
  have HB7 := Lib.hid (HB6.out.trans (hb7.mono HB6.out.size))
  have UY := Lib.hid (UY.out.later hb7)
  have UL := Lib.hid (UL.out.later hb7)
  clear hb7 CU HB6 UX
  go_wp2_with fail
  go_loopw [20, 82] (fun bv kv wr => ∃ k : Nat, k ≤ nu ∧ kv = .int .i64 k ∧ bv = .int .i64 (cm (u.take k) : Nat) ∧ wr = w7) (fun _ kv _ => nu - (intOf kv).toNat)
  case atStart => exact ⟨0, by omega, rfl, by rw [List.take_zero, HC0.out]; rfl, rfl⟩
  case round =>
    obtain ⟨k, hk, rfl, rfl, rfl⟩ := hrel
    have hcl : cm (u.take k) ≤ 400 := by have := HCL.out (u.take k); rw [List.length_take] at this; omega
    by_cases hlt : k < nu
    · obtain ⟨bl, off, rfl, _, hcell⟩ := UY.out.ul.at (by rw [HNU.out]; omega)
      have ck := hcell k (by rw [HNU.out]; exact hlt)
      have htk : u.take (k + 1) = u.take k ++ [u.getD k 0] := take_getD (by rw [HNU.out]; exact hlt)
      have HS2 := HCM.out (u.take k) (u.getD k 0)
      rw [← htk] at HS2
      have HS2 := Lib.hid HS2
      clear hcell htk
      generalize u.getD k 0 = x at *
      have C1 := Lib.hid (CN1.out x _ HB7.out)
      have C2 := Lib.hid (CN2.out x _ HB7.out)
      generalize decide (x ∈ a) = da at *
      generalize decide (x ∈ b) = db at *
      have i1 : (k : Int) < (nu : Int) := by omega
      generalize cm (u.take k) = cn at *
      generalize hcn2 : cm (u.take (k + 1)) = cn2 at *
      have HC2 := Lib.hid hcn2
      clear hcn2
      cases da
      · have e2 := HS2.out
        simp at e2
        have HE := Lib.hid e2
        clear e2 HS2 C2
        go_wp2_with fail
        refine C1.out.mono ?_
        rintro e w8 ⟨rfl, rfl⟩
        go_wp2
        go_roundw
        case rel => exact ⟨k + 1, by omega, by go_num, by rw [HC2.out, HE.out], by first | rfl | trivial⟩
        case measure => simp [intOf]; omega
      · cases db
        · have e2 := HS2.out
          simp at e2
          have HE := Lib.hid e2
          clear e2 HS2
          go_wp2_with fail
          refine C1.out.mono ?_
          rintro e w8 ⟨rfl, rfl⟩
          go_wp2_with fail
          refine C2.out.mono ?_
          rintro e w8 ⟨rfl, rfl⟩
          go_wp2
          go_roundw
          case rel => exact ⟨k + 1, by omega, by go_num, by rw [HC2.out, HE.out], by first | rfl | trivial⟩
          case measure => simp [intOf]; omega
        · have e2 := HS2.out
          simp at e2
          have HE := Lib.hid e2
          clear e2 HS2
          go_wp2_with fail
          refine C1.out.mono ?_
          rintro e w8 ⟨rfl, rfl⟩
          go_wp2_with fail
          refine C2.out.mono ?_
          rintro e w8 ⟨rfl, rfl⟩
          go_wp2
          go_roundw
          case rel => exact ⟨k + 1, by omega, by go_num, by rw [HC2.out, HE.out]; rfl, by first | rfl | trivial⟩
          case measure => simp [intOf]; omega
    · obtain rfl : k = nu := by omega
      have HT : Hid (u.take k = u) := by show _ = _; rw [← HNU.out, List.take_length]
      rw [HT.out] at hcl ⊢
      generalize cm u = cn at *
      clear CN1 CN2 HCM HCL HC0 UY
      rcases HALL.out with ⟨r1, r2, ha, hlu⟩ | ⟨hr, ha⟩
      · obtain ⟨hul, rfl⟩ : ul = skL s r l ∧ el = 0 := by cases ha; exact ⟨rfl, rfl⟩
        have CE2 := CE.out r1 r2 _ HB7.out
        rw [← hul] at CE2 hlu
        have CE2 := Lib.hid CE2
        clear ha CE HALL hul
        go_wp2_with fail
        refine CE2.out.mono ?_
        rintro e w8 ⟨v, rfl, hO, hb8⟩
        obtain ⟨Re, ce, rfl, hU⟩ := hO.up
        have HB8 := Lib.hid (HB7.out.trans (hb8.mono HB7.out.size))
        have UL := UL.out.later hb8
        have h1 := UL.cap
        have h2 := hU.cap
        have CU := uequal_any Rl Re cl ce ul ul w8 UL.ul hU.ul (by omega) (by omega)
        simp only [decide_true] at CU
        rw [HNUL.out] at CU
        rw [HNUL.out]
        have CU := Lib.hid CU
        clear h1 h2 UL hU hO hb8 CE2
        go_wp2_with fail
        refine CU.out.mono ?_
        rintro e w9 ⟨rfl, hb9⟩
        have HB9 := Lib.hid (HB8.out.trans (hb9.mono HB8.out.size))
        clear hb9 CU
        go_wp2
        go_ret
        exact ⟨rfl, HB9.out⟩
      · obtain ⟨rfl, rfl⟩ : ul = [] ∧ el = 2 := by cases ha; exact ⟨rfl, rfl⟩
        have h0 : nul = 0 := by rw [← HNUL.out]; rfl
        subst h0
        clear ha CE HALL
        rcases Int.lt_or_le r 1 with hr1 | hr1
        · have d1 : decide (r < 1) = true := decide_eq_true hr1
          clear hr hr1
          go_wp2
          go_ret
          exact ⟨rfl, HB7.out⟩
        · have d1 : decide (r < 1) = false := decide_eq_false (by omega)
          have d2 : decide (400 < r) = true := decide_eq_true (by omega)
          clear hr hr1
          go_wp2
          go_ret
          exact ⟨rfl, HB7.out⟩
end Go.Proofs.Ytnihcpaakbhpcaa
