/- lotdrawerkeep.JoinEven: the walk. -/
import Derived.Test.YtjhcbjpbmbjgoaaJh
import Derived.Test.YtjhcbjpbmbjgoaaJ8
import Derived.Test.YtjhcbjpbmbjgoaaXf
import Derived.Test.YtjhcbjpbmbjgoaaX7
import Derived.Shelf.Abstract
namespace Go.Proofs.Ytjhcbjpbmbjgoaa
open Go.RowKit Go.Deep Go.Maps

theorem ints_inN (l : List Nat) : ints l = inN l := rfl
theorem OG.kpM {M : Nat} {w w' : World} {B : Nat} {v : Value} {ls : List (List Nat)} (h : OG w B v ls) (hk : Kp (fun k => k = M) w w') (hB : M < B) : OG w' B v ls := h.keep fun g h1 h2 => hk.block g h2 (by omega)
theorem mem_getJ {ls : List (List Nat)} {i : Nat} (h : i < ls.length) : ls.getD i [] ∈ ls := by
  rw [List.getD_eq_getElem?_getD, List.getElem?_eq_getElem h]
  exact List.getElem_mem h
theorem eall_row : ∀ (n k : Nat), ∀ x ∈ eall k n, x.length = k
  | n, 0, x, hx => by rw [eall_zero] at hx; simp at hx; rw [hx]; rfl
  | 0, k + 1, x, hx => by rw [eall_none] at hx; cases hx
  | n + 1, k + 1, x, hx => by
    rw [eall_succ, List.mem_append] at hx
    rcases hx with hx | hx
    · exact eall_row n (k + 1) x hx
    · obtain ⟨y, hy, rfl⟩ := List.mem_map.1 hx
      rw [List.length_append, eall_row n k y hy]
      rfl
theorem eall_big : ∀ (n k : Nat), ∀ x ∈ eall k n, ∀ z ∈ x, z < n
  | n, 0, x, hx, z, hz => by rw [eall_zero] at hx; simp at hx; rw [hx] at hz; cases hz
  | 0, k + 1, x, hx, z, hz => by rw [eall_none] at hx; cases hx
  | n + 1, k + 1, x, hx, z, hz => by
    rw [eall_succ, List.mem_append] at hx
    rcases hx with hx | hx
    · have := eall_big n (k + 1) x hx z hz
      omega
    · obtain ⟨y, hy, rfl⟩ := List.mem_map.1 hx
      rw [List.mem_append] at hz
      rcases hz with hz | hz
      · have := eall_big n k y hy z hz
        omega
      · simp at hz
        omega
theorem take_snocI {l : List Nat} {k : Nat} (h : k < l.length) (n : Nat) : (l.map (fun z => n + z)).take (k + 1) = (l.map (fun z => n + z)).take k ++ [n + l.getD k 0] := by
  rw [List.take_succ_eq_append_getElem (by simpa using h)]
  simp [List.getD_eq_getElem?_getD, h]

set_option maxRecDepth 100000 in
set_option maxHeartbeats 4000000 in
theorem joinEven_walk (room n m : Int) (w : World) (wn : -9223372036854775808 ≤ n ∧ n ≤ 9223372036854775807) (wm : -9223372036854775808 ≤ m ∧ m ≤ 9223372036854775807) :
    Calls Try.prog 3 #[.int .i64 room, .int .i64 n, .int .i64 m] w fun e w' => e = .returned (.bool true) ∧ Below w.heap.size w w' := by
  have CA := Lib.hid (alive7_any w)
  have hmm := @run_makeMap Try.prog
  go_enter Try.func3, Try.ntmps3
  go_wp2_with fail
  refine CA.out.mono ?_
  rintro e w1 ⟨rfl, hb1⟩
  have HB := Lib.hid hb1
  clear CA hb1
  rcases (show room < 1 ∨ (1 ≤ room ∧ 2 < room) ∨ (1 ≤ room ∧ room ≤ 2 ∧ n < 0) ∨ (1 ≤ room ∧ room ≤ 2 ∧ 0 ≤ n ∧ m < 0) ∨ (1 ≤ room ∧ room ≤ 2 ∧ 0 ≤ n ∧ 0 ≤ m ∧ 5 < n) ∨ (1 ≤ room ∧ room ≤ 2 ∧ 0 ≤ n ∧ 0 ≤ m ∧ n ≤ 5 ∧ 5 < m) ∨ (1 ≤ room ∧ room ≤ 2 ∧ 0 ≤ n ∧ 0 ≤ m ∧ n ≤ 5 ∧ m ≤ 5 ∧ 5 < n + m) ∨ (1 ≤ room ∧ room ≤ 2 ∧ 0 ≤ n ∧ 0 ≤ m ∧ n ≤ 5 ∧ m ≤ 5 ∧ n + m ≤ 5 ∧ n + m < room) ∨ (1 ≤ room ∧ room ≤ 2 ∧ 0 ≤ n ∧ 0 ≤ m ∧ n ≤ 5 ∧ m ≤ 5 ∧ n + m ≤ 5 ∧ room ≤ n + m) by omega) with h | ⟨h1, h⟩ | ⟨h1, h2, h⟩ | ⟨h1, h2, h3, h⟩ | ⟨h1, h2, h3, h4, h⟩ | ⟨h1, h2, h3, h4, h5, h⟩ | ⟨h1, h2, h3, h4, h5, h6, h⟩ | ⟨h1, h2, h3, h4, h5, h6, h7, h⟩ | ⟨h1, h2, h3, h4, h5, h6, h7, h8⟩
  case inr.inr.inr.inr.inr.inr.inr.inr =>
    obtain ⟨R, rfl⟩ : ∃ R : Nat, room = R := ⟨room.toNat, by omega⟩
    obtain ⟨N, rfl⟩ : ∃ N : Nat, n = N := ⟨n.toNat, by omega⟩
    obtain ⟨O, rfl⟩ : ∃ O : Nat, m = O := ⟨m.toNat, by omega⟩
    have hv : VJ R N O := ⟨by omega, by omega, by omega, by omega⟩
    have HV := Lib.hid hv
    obtain ⟨K1, hK1⟩ : ∃ K1, min R N = K1 := ⟨_, rfl⟩
    obtain ⟨K2, hK2⟩ : ∃ K2, min R O = K2 := ⟨_, rfl⟩
    have hk1 : min (R : Int) (N : Int) = (K1 : Int) := by omega
    have hk2 : min (R : Int) (O : Int) = (K2 : Int) := by omega
    have C1 := Lib.hid (eallC_all K1 (by omega) N (w1.alloc (.map #[] 0)) (by omega))
    have C2 : Hid (∀ wx : World, Calls Try.prog 10 #[.int .i64 O, .int .i64 K2] wx fun e w' => ∃ v, e = .returned v ∧ OG w' wx.heap.size v (eall K2 O) ∧ Below wx.heap.size wx w') := fun wx => eallC_all K2 (by omega) O wx (by omega)
    have HXS : Hid (xsJ R N = eall K1 N) := by show _ = _; rw [xsJ, hK1]
    have HYS : Hid (ysJ R N O = (eall K2 O).map (fun y => y.map (fun z => N + z))) := by show _ = _; rw [ysJ, hK2]
    have hM0 := WM.made w1
    have hsz1 : (w1.alloc (.map #[] 0)).heap.size = w1.heap.size + 1 := by simp
    have hbm : Below w.heap.size w (w1.alloc (.map #[] 0)) := HB.out.alloc HB.out.size _
    have HM0 := Lib.hid hM0
    have HBM := Lib.hid hbm
    have hgt := HB.out.size
    obtain ⟨L, hL⟩ : ∃ L : Nat, (N : Int) + (O : Int) = L := ⟨N + O, by omega⟩
    have hif1 : (if (N : Int) < (R : Int) then (N : Int) else (R : Int)) = (K1 : Int) := by split <;> omega
    have hif2 : (if (O : Int) < (R : Int) then (O : Int) else (R : Int)) = (K2 : Int) := by split <;> omega
    have hif3 : (if N < R then (N : Int) else (R : Int)) = (K1 : Int) := by split <;> omega
    have hif4 : (if O < R then (O : Int) else (R : Int)) = (K2 : Int) := by split <;> omega
    have d1 : decide ((R : Int) < 1) = false := by rw [decide_eq_false_iff_not]; omega
    have d2 : decide ((2 : Int) < (R : Int)) = false := by rw [decide_eq_false_iff_not]; omega
    have d3 : decide ((N : Int) < 0) = false := by rw [decide_eq_false_iff_not]; omega
    have d4 : decide ((O : Int) < 0) = false := by rw [decide_eq_false_iff_not]; omega
    have d5 : decide ((5 : Int) < (N : Int)) = false := by rw [decide_eq_false_iff_not]; omega
    have d6 : decide ((5 : Int) < (O : Int)) = false := by rw [decide_eq_false_iff_not]; omega
    have d7 : decide ((5 : Int) < (L : Int)) = false := by rw [decide_eq_false_iff_not]; omega
    have d8 : decide ((L : Int) < (R : Int)) = false := by rw [decide_eq_false_iff_not]; omega
    have d9 : decide (L < R) = false := by rw [decide_eq_false_iff_not]; omega
    have HLL : Hid (N + O = L) := by show _ = _; omega
    have L5 : L ≤ 5 := by omega
    clear hv hM0 hbm
    go_wp2_with fail
    refine C1.out.mono ?_
    rintro e w3 ⟨v1, rfl, hO1, hb3⟩
    clear d1 d2 d3 d4 d5 d6 d7 d8 d9 C1 hif1 hif3 hk1
    obtain ⟨V1, cv1, rfl, hle1, hcap1⟩ := hO1.slice
    have HO1 := Lib.hid hO1
    have HM3 := Lib.hid (HM0.out.later hb3)
    have HB3 : Hid (Below w.heap.size w w3) := HBM.out.trans (hb3.mono HBM.out.size)
    have hMs : w1.heap.size < (w1.alloc (.map #[] 0)).heap.size := by simp
    have h3s := hb3.size
    rw [hsz1] at HO1 h3s hMs
    generalize w1.heap.size = M at *
    clear hO1 hb3 HM0 HBM hsz1 HB
    have hx20 := (sizesJ HV.out).1
    rw [HXS.out] at hx20
    go_wp2_with fail
    go_loopw [8, 64] (fun kv iv wr => ∃ i : Nat, i ≤ (eall K1 N).length ∧ kv = .bool true ∧ iv = .int .i64 i ∧ WM wr M (uA R N O i) ∧ Kp (fun k => k = M) w3 wr) (fun _ iv _ => (eall K1 N).length - (intOf iv).toNat)
    case atStart => exact ⟨0, by omega, rfl, rfl, HM3.out, Kp.refl _ _⟩
    case round =>
      obtain ⟨i, hi, rfl, rfl, hM, hK⟩ := hrel
      have HM := Lib.hid hM
      have HK := Lib.hid hK
      clear hM hK
      by_cases hlt : i < (eall K1 N).length
      · obtain ⟨wI, hwI⟩ : ∃ wI, wI = wr := ⟨_, rfl⟩
        subst hwI
        have hOG := HO1.out.kpM HK.out (Nat.lt_succ_self M)
        obtain ⟨g1, cap1, e, _, _, _⟩ := hOG.at (by omega)
        injection e with e1 _ e3
        subst e1
        subst e3
        obtain ⟨xb, xc, hxc, hxI, _⟩ := hOG.row hlt
        have hxm := mem_getJ hlt
        obtain ⟨x, hx⟩ : ∃ x, (eall K1 N).getD i [] = x := ⟨_, rfl⟩
        rw [hx] at hxc hxI hxm
        have HXL := Lib.hid (eall_row N K1 x hxm)
        have HX := Lib.hid (And.intro hx hxm)
        have HXI := Lib.hid hxI
        have hil : (i : Int) < ((eall K1 N).length : Int) := by omega
        have hMI := HM.out.lt
        clear hOG hxI hx hxm
        go_wp2_with fail
        refine (C2.out _).mono ?_
        rintro e w4 ⟨v2, rfl, hO2, hb4⟩
        obtain ⟨V2, cv2, rfl, hle2, hcap2⟩ := hO2.slice
        have HO2 := Lib.hid hO2
        have HM4 := Lib.hid (HM.out.later hb4)
        have HK4 : Hid (Kp (fun k => k = M) w3 w4) := HK.out.trans (Kp.of_below hb4)
        have HX4 := Lib.hid (HXI.out.later hb4)
        have h4s := hb4.size
        have hy20 := (sizesJ HV.out).2
        rw [HYS.out, List.length_map] at hy20
        clear hO2 hb4 hxc HXI HM HK
        go_wp2_with fail
        go_loopw [8, 74] (fun kv iv wr => ∃ j : Nat, j ≤ (eall K2 O).length ∧ kv = .bool true ∧ iv = .int .i64 j ∧ WM wr M (uB R N O x j (uA R N O i)) ∧ Kp (fun k => k = M) w4 wr) (fun _ iv _ => (eall K2 O).length - (intOf iv).toNat)
        case atStart => exact ⟨0, by omega, rfl, rfl, HM4.out, Kp.refl _ _⟩
        case round =>
          obtain ⟨j, hj, rfl, rfl, hM, hK⟩ := hrel
          have hX5 := HX4.out.kpM HM4.out hK
          have HM5 := Lib.hid hM
          have HK5 := Lib.hid hK
          by_cases hltj : j < (eall K2 O).length
          · obtain ⟨wJ, hwJ⟩ : ∃ wJ, wJ = wr := ⟨_, rfl⟩
            subst hwJ
            have hOG := HO2.out.kpM hK hMI
            obtain ⟨g2, cap2, e, _, _, _⟩ := hOG.at (by omega)
            injection e with e1 _ e3
            subst e1
            subst e3
            obtain ⟨yb, yc, hyc, hyI, _⟩ := hOG.row hltj
            have hym := mem_getJ hltj
            obtain ⟨y, hy⟩ : ∃ y, (eall K2 O).getD j [] = y := ⟨_, rfl⟩
            rw [hy] at hyc hyI hym
            have HYL := Lib.hid (eall_row O K2 y hym)
            have hy2 : y.length ≤ 2 := by rw [HYL.out]; omega
            have HYB := Lib.hid (eall_big O K2 y hym)
            have HY := Lib.hid (And.intro hy hym)
            have HYI := Lib.hid hyI
            have HX5 := Lib.hid hX5
            have hjl : (j : Int) < ((eall K2 O).length : Int) := by omega
            have hyc1 := hyI.cap
            have hyc2 := hyI.le
            have k5 : Below wJ.heap.size wJ ((wJ.alloc (.cells #[.int .i64 R, .int .i64 N, .slice (some ⟨xb, 0, none⟩) x.length xc] 28)).alloc (.cells #[.int .i64 R, .int .i64 O, .slice none 0 0] 28)) := ((Below.refl _ _).alloc (Nat.le_refl _) _).alloc (by simp) _
            have HA0 := Lib.hid ((PB.new wJ R N (.slice (some ⟨xb, 0, none⟩) x.length xc)).alloc (.cells #[.int .i64 R, .int .i64 O, .slice none 0 0] 28))
            have HB0 := Lib.hid (PB.new2 wJ (.cells #[.int .i64 R, .int .i64 N, .slice (some ⟨xb, 0, none⟩) x.length xc] 28) R O (.slice none 0 0))
            have HK0 := Lib.hid k5
            clear hOG hyI hy hym hX5 hM hK k5
            go_wp2_with fail
            clear hyc
            go_loopw [87] (fun iv wr => ∃ (t : Nat) (hv : Value), t ≤ y.length ∧ iv = .int .i64 t ∧ PB wr wJ.heap.size R N (.slice (some ⟨xb, 0, none⟩) x.length xc) ∧ PB wr (wJ.heap.size + 1) R O hv ∧ OI wr (wJ.heap.size + 1 + 1) hv (inN ((y.map (fun z => N + z)).take t)) ∧ Below wJ.heap.size wJ wr) (fun iv _ => y.length - (intOf iv).toNat)
            case atStart => exact ⟨0, _, by omega, rfl, HA0.out, HB0.out, OI.nil _ _, HK0.out⟩
            case round =>
              clear HA0 HB0 HK0
              obtain ⟨t, hv, ht, rfl, hA, hB, hO, hK⟩ := hrel
              obtain ⟨RH, crh, rfl⟩ := hO.shape
              have HA := Lib.hid hA
              have HB := Lib.hid hB
              have HO := Lib.hid hO
              have HK6 := Lib.hid hK
              clear hA hB hO hK
              by_cases htl : t < y.length
              · obtain ⟨b', off', e', _, hcl⟩ := (HYI.out.later HK6.out).il.at (by rw [ints_len]; omega)
                have hcz := hcl t (by rw [ints_len]; exact htl)
                injection e' with e'
                injection e' with e1 e2
                subst e1
                subst e2
                rw [Nat.zero_add, ints_inN, inN_at] at hcz
                have hzm := HYB.out (y.getD t 0) (by rw [List.getD_eq_getElem?_getD, List.getElem?_eq_getElem htl]; exact List.getElem_mem htl)
                have HTS := Lib.hid (take_snocI htl N)
                obtain ⟨z, hz⟩ : ∃ z, y.getD t 0 = z := ⟨_, rfl⟩
                rw [hz] at hcz hzm HTS
                have hnz : (N : Int) + (z : Int) = ((N + z : Nat) : Int) := by omega
                obtain ⟨q, hq⟩ : ∃ q, N + z = q := ⟨_, rfl⟩
                rw [hq] at hnz HTS
                have hq5 : q ≤ 10 := by omega
                obtain ⟨p0, p1, p2, _⟩ := HB.out.at
                have hti : (t : Int) < (y.length : Int) := by omega
                have hll : (inN ((y.map (fun z => N + z)).take t)).length < 17592186044416 := by rw [inN_len, List.length_take]; omega
                have HLB := Lib.hid hll
                have hsz : wJ.heap.size + 1 + 1 ≤ wr.heap.size := HB.out.lt
                clear hcl hz hll
                generalize (y.map (fun z => N + z)).take t = done at *
                go_wp2_with (at_builtin; refine wpList_push2 rfl _ _ rfl (wJ.heap.size + 1 + 1) wJ.heap.size (.slice RH (inN done).length crh) (inN done) (q : Int) rfl HO.out rfl HLB.out hsz (by omega) HK6.out ?_; intro g cap w6 ho6 hB6 hg6; have hne : ∀ k, k < wJ.heap.size + 1 + 1 → some k ≠ (Value.slice RH (inN done).length crh).ownBlock := (fun k hk e => by have := (World.ownsRow.lt HO.out k e.symm).1; omega); have hPB : PB w6 (wJ.heap.size + 1) R O (.slice RH (inN done).length crh) := (hg6.block _ (by have := HB.out.lt; simp; omega) (hne _ (by omega))).trans (HB.out.alloc _); have hPA : PB w6 wJ.heap.size R N (.slice (some ⟨xb, 0, none⟩) x.length xc) := (hg6.block _ (by have := HA.out.lt; simp; omega) (hne _ (by omega))).trans (HA.out.alloc _); obtain ⟨s0, s1, s2, u0, u1, u2⟩ := hPB.at; have HPB := Lib.hid hPB; have HPA := Lib.hid hPA; have HO6 := Lib.hid ho6; have HB6 := Lib.hid hB6; clear ho6 hB6 hg6 hne hPB hPA)
                have HO7 : Hid (OI (w6.setCell ⟨wJ.heap.size + 1, 2, none⟩ (.slice (some ⟨g, 0, none⟩) ((inN done).length + 1) cap)) (wJ.heap.size + 1 + 1) (.slice (some ⟨g, 0, none⟩) ((inN done).length + 1) cap) (inN (done ++ [q]))) := by
                  show OI _ _ _ _
                  rw [inN_append]
                  exact HO6.out.apartC (Nat.lt_succ_self _) 2 _
                rw [← HTS.out] at HO7
                go_wp2
                go_roundw
                case rel => exact ⟨t + 1, _, htl, by go_num, HPA.out.other (a := ⟨wJ.heap.size + 1, 2, none⟩) (by show wJ.heap.size ≠ wJ.heap.size + 1; omega) _, HPB.out.set2 _, HO7.out, HB6.out.setCell (p := ⟨wJ.heap.size + 1, 2, none⟩) (by show wJ.heap.size ≤ wJ.heap.size + 1; omega) _⟩
                case measure => simp [intOf]; omega
              · obtain rfl : t = y.length := by omega
                have e0 : (y.map (fun z => N + z)).take y.length = y.map (fun z => N + z) := List.take_of_length_le (by simp)
                rw [e0] at HO HB
                obtain ⟨_, _, e2, hIB⟩ := HO.out.ip
                cases e2
                have hlm : (inN (y.map (fun z => N + z))).length = (y.map (fun z => N + z)).length := inN_len _
                have hS := (WOK.uB HV.out (x := x) (WOK.uA HV.out i) j).mono (show 10000 * i + 500 * j ≤ 290000 by omega)
                have hgy : (ysJ R N O).getD j [] = y.map (fun z => N + z) := by
                  rw [HYS.out, List.getD_eq_getElem?_getD, List.getElem?_map, ← HY.out.1, List.getD_eq_getElem?_getD, List.getElem?_eq_getElem hltj]
                  rfl
                have CD := Lib.hid (draws_any HV.out x (y.map (fun z => N + z)) (by rw [HXS.out]; exact HX.out.2) (by rw [HYS.out]; exact List.mem_map.2 ⟨y, HY.out.2, rfl⟩) (by rw [HXL.out, hK1]) (by rw [List.length_map, HYL.out, hK2]) (some ⟨xb, 0, none⟩) RH xc crh M _ wr (HX5.out.later HK6.out) hIB (HM5.out.later HK6.out) hS)
                have HEU : Hid (uX R N O x (y.map (fun z => N + z)) (waysJ (N + O) R) (uB R N O x j (uA R N O i)) = uB R N O x (j + 1) (uA R N O i)) := by
                  show _ = _
                  rw [uB, hgy]
                rw [HEU.out] at CD
                obtain ⟨a0, a1, a2, _⟩ := HA.out.at
                obtain ⟨b0, b1, b2, _⟩ := HB.out.at
                rw [hlm] at b2
                unfold pv at CD
                rw [List.length_map] at CD b2
                have HKJ : Hid (Kp (fun k => k = M) w4 wr) := HK5.out.trans (Kp.of_below HK6.out)
                clear hS hgy hIB hlm e0
                go_wp2_with fail
                refine CD.out.mono ?_
                rintro e w7 ⟨rfl, hM7, hK7⟩
                have HM7 := Lib.hid hM7
                have HK7 := Lib.hid (HKJ.out.trans hK7)
                clear hM7 hK7 CD a0 a1 a2 b0 b1 b2
                go_wp2
                go_roundw
                case rel => exact ⟨j + 1, hltj, rfl, by go_num, HM7.out, HK7.out⟩
                case measure => simp [intOf]; omega
          · obtain rfl : j = (eall K2 O).length := by omega
            have HMN : Hid (WM wr M (uA R N O (i + 1))) := by
              show WM _ _ _
              rw [uA, HXS.out, HX.out.1, HYS.out, List.length_map]
              exact hM
            have HKN : Hid (Kp (fun k => k = M) w3 wr) := HK4.out.trans hK
            clear hM hK hX5
            go_wp2
            go_roundw
            case rel => exact ⟨i + 1, hlt, rfl, by go_num, HMN.out, HKN.out⟩
            case measure => simp [intOf]; omega
      · obtain rfl : i = (eall K1 N).length := by omega
        obtain ⟨D, hD, hC⟩ := HM.out
        obtain ⟨hev, V, hV⟩ := evenJ HV.out
        rw [HXS.out] at hev hV
        have hVb : V ≤ 216216000000 ∨ (uA R N O (eall K1 N).length).map Prod.fst = [] := by
          cases hu : (uA R N O (eall K1 N).length).map Prod.fst with
          | nil => exact .inr rfl
          | cons a l =>
            left
            rw [← hV a (by rw [hu]; exact List.mem_cons_self)]
            exact ((WOK.uA HV.out (eall K1 N).length).mono (show 10000 * (eall K1 N).length ≤ 300000 by omega)).sum (by omega) a
        have HBr : Hid (Below w.heap.size w wr) := Kp.below HB3.out HK.out (fun k hk => by subst hk; exact hgt)
        have HD := Lib.hid hD
        have HC := Lib.hid hC
        have HEV := Lib.hid (And.intro hev hV)
        have HVB := Lib.hid hVb
        obtain ⟨wa, hwa⟩ : ∃ wa, wa = wr := ⟨_, rfl⟩
        subst hwa
        have hMa := HM.out.lt
        clear hD hC hev hV hVb HM HK HB3 HM3
        go_wp2_with (first
          | (at_range; refine wpList_range_own _ rfl _ 23 rfl 3 3 lawC Try.underlying23 _ M _ D rfl HD.out ?_; intro w0 hrg0 hg0 hs0))
        have HRG0 := Lib.hid hrg0
        have HB0 : Hid (Below w.heap.size w w0) := HBr.out.grown hg0 HBr.out.size (by simp)
        have hga := HBr.out.size
        clear hrg0 hg0 hs0
        go_frame
        go_loopw [17, 19] (fun ov _ wx => ∃ (left : Lit → Bool) (cnt : Nat), wx.ranges Try.prog 3 (plainElem Try.prog 3) M wa.heap.size (uA R N O (eall K1 N).length).length D left cnt ∧ (∀ kl, left kl = true → has D kl = true) ∧ (ov = .int .i64 (-1) ∨ (ov = .int .i64 (V : Nat) ∧ V ≤ 216216000000)) ∧ Below w.heap.size w wx) (fun _ _ wx => wx.rangeLeft M wa.heap.size)
        case atStart => exact ⟨_, _, HRG0.out, fun _ h => h, .inl rfl, HB0.out⟩
        case round =>
          obtain ⟨left, cnt, hrg, hle, hov, hB1⟩ := hrel
          clear HRG0 HB0
          have HRG := Lib.hid hrg
          have HLE := Lib.hid hle
          have HB1 := Lib.hid hB1
          have HOV := Lib.hid hov
          clear hrg hle hB1 hov
          go_wp2_with (first
            | (at_next; refine wpList_next_ranges_ii _ rfl _ rfl 3 3 .i64 .i64 lawC Try.underlying3 Try.underlying3 M wa.heap.size _ _ _ _ rfl HRG.out ?_ ?_))
          · intro _ _
            obtain ⟨c, hc⟩ : ∃ c, bc L R = c := ⟨_, rfl⟩
            have hlen : ∀ ty, (Builtin.len_ #[23] ty #[.map (some M)]).run Try.prog wr = .ok (.int .i64 (c : Nat)) wr := fun ty => by
              rw [HRG.out.owns.len Try.underlying23 ty, HC.out.sz, HEV.out.1, HLL.out, hc]
            have CE := Lib.hid (eOf_any L R wr (by omega) (by omega))
            rw [hc] at CE
            have hcb := bc_big (show L ≤ 60 by omega) R
            rw [hc] at hcb
            have tv : ((c : Int) == (c : Int)) = true := by simp
            clear HRG hc
            go_wp2_with fail
            refine CE.out.mono ?_
            rintro e w8 ⟨rfl, hb8⟩
            have HB8 := Lib.hid (HB1.out.trans (hb8.mono HB1.out.size))
            clear hb8 CE
            go_wp2
            go_ret
            exact ⟨rfl, HB8.out⟩
          · intro x c w5 cnt1 hwx hwc hlx hat hrg1 hlt1 hg1 hs1 hen
            obtain ⟨s, hs, ex⟩ := HC.out.keys _ (HLE.out _ hlx)
            injection ex with _ ex
            subst ex
            have hc := hat (.lit (.int .i64 0))
            rw [HC.out.look s, HEV.out.2 s hs] at hc
            injection hc with hc
            injection hc with _ hc
            subst hc
            have hVl : V ≤ 216216000000 := by
              rcases HVB.out with h | h
              · exact h
              · rw [h] at hs; cases hs
            have tf : ((V : Int) != (V : Int)) = false := by simp
            have HRG1 := Lib.hid hrg1
            have HB5 : Hid (Below w.heap.size w w5) := HB1.out.grown hg1 HB1.out.size (by intro q hq; cases hq; omega)
            have HLT := Lib.hid hlt1
            have HL2 : Hid (∀ kl, (left kl && !kl.sameKey (.int .i64 (s : Int))) = true → has D kl = true) := fun kl h => HLE.out kl (by simp only [Bool.and_eq_true] at h; exact h.1)
            clear hrg1 hlt1 hg1 hs1 hat hlx hwx hwc hs
            rcases HOV.out with rfl | ⟨rfl, _⟩
            all_goals
              go_wp2
              go_roundw
              case rel => exact ⟨_, cnt1, HRG1.out, HL2.out, .inr ⟨rfl, hVl⟩, HB5.out⟩
              case measure => rw [HRG1.out.left_eq, HRG.out.left_eq]; exact HLT.out
  all_goals
    go_wp2
    go_ret
    exact ⟨rfl, HB.out⟩
end Go.Proofs.Ytjhcbjpbmbjgoaa
