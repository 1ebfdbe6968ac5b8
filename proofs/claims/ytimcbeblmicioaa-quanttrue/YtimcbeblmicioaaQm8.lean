/- lotdrawerref.OAdd. -/
import Derived.Test.YtimcbeblmicioaaQm3
import Derived.Test.YtimcbeblmicioaaQm6
import Derived.Test.YtimcbeblmicioaaQm7
import Derived.Deep.DeepCutAuto
namespace Go.Proofs.Ytimcbeblmicioaa
open Go.RowKit Go.Deep

theorem rpost_nil {w w' : World} (k : Int) (hb : Below w.heap.size w w') : ∃ R cr, Ending.returned (.tuple #[.slice none 0 0, .int .i64 k]) = .returned (.tuple #[.slice R (([], k) : List Rk × Int).1.length cr, .int .i64 (([], k) : List Rk × Int).2]) ∧ RP w' R cr (([], k) : List Rk × Int).1 ∧ Below w.heap.size w w' := ⟨none, 0, rfl, RP.nil w', hb⟩

set_option maxRecDepth 100000 in
set_option maxHeartbeats 2500000 in
theorem oadd_any (p : Int) (A : Option Addr) (ca : Nat) (S : List Rk) (x : Int) (w : World) (hS : RP w A ca S) :
    Calls Try.prog 9 #[.int .i64 p, .slice A S.length ca, .int .i64 x] w (RPost w (qaddC p S x)) := by
  have hle := hS.le
  have hcap := hS.cap
  have HS := Lib.hid hS
  have C1 : Hid (∀ b0 : Bool, (b0 = true ↔ QR p S) → Calls Try.prog 14 #[.int .i64 p, .slice A S.length ca] w fun e w2 => e = .returned (.bool b0) ∧ Below w.heap.size w w2) := fun b0 h0 => oright_any p A ca S w hS b0 h0
  clear hS
  by_cases hR : QR p S
  · have CR := Lib.hid (C1.out true ⟨fun _ => hR, fun _ => rfl⟩)
    have hg : ∀ r ∈ S, 0 ≤ r.g := fun r hr => by have := (hR.each r hr).1; omega
    have ht := hR.tot
    have h400 := hR.len
    have E : Hid (qaddC p S x = if S.length < 400 ∧ qtot S < 1099511627776 then (qadd p S x, 0) else ([], 4)) := if_pos hR
    have CT : Hid (∀ w', Below w.heap.size w w' → Calls Try.prog 17 #[.slice A S.length ca] w' fun e w2 => e = .returned (.int .i64 (qtot S)) ∧ Below w'.heap.size w' w2) := fun w' hb => oall_any A ca S w' (HS.out.later hb) hg (by omega)
    have HRR := Lib.hid hR
    clear hR C1 hg
    by_cases hl : 399 < S.length
    · have hli : (399 : Int) < (S.length : Int) := by omega
      have E2 : Hid (qaddC p S x = ([], 4)) := by show _ = _; rw [E.out, if_neg (by omega)]
      rw [E2.out]
      clear E E2 CT
      go_enter Try.func9, Try.ntmps9
      go_wp2_with fail
      refine CR.out.mono ?_
      rintro e w1 ⟨rfl, hb⟩
      have HB := Lib.hid hb
      clear hb
      go_wp2
      go_ret2
      exact rpost_nil 4 HB.out
    · have hli : ¬ (399 : Int) < (S.length : Int) := by omega
      by_cases hq : 1099511627776 ≤ qtot S
      · have E2 : Hid (qaddC p S x = ([], 4)) := by show _ = _; rw [E.out, if_neg (by omega)]
        rw [E2.out]
        clear E E2
        go_enter Try.func9, Try.ntmps9
        go_wp2_with fail
        refine CR.out.mono ?_
        rintro e w1 ⟨rfl, hb⟩
        have HB := Lib.hid hb
        clear hb
        go_wp2_with fail
        refine (CT.out _ HB.out).mono ?_
        rintro e w2 ⟨rfl, hb⟩
        have HB2 := Lib.hid (HB.out.trans (hb.mono HB.out.size))
        clear hb
        go_wp2
        go_ret2
        exact rpost_nil 4 HB2.out
      · have E2 : Hid (qaddC p S x = (qadd p S x, 0)) := by show _ = _; rw [E.out, if_pos (by omega)]
        rw [E2.out]
        have HQ := Lib.hid hq
        clear E E2
        go_enter Try.func9, Try.ntmps9
        go_wp2_with fail
        refine CR.out.mono ?_
        rintro e w1 ⟨rfl, hb⟩
        have HB := Lib.hid hb
        clear hb CR
        go_wp2_with fail
        refine (CT.out _ HB.out).mono ?_
        rintro e w2 ⟨rfl, hb⟩
        have HB2 := Lib.hid (HB.out.trans (hb.mono HB.out.size))
        clear hb HB CT
        go_wp2_with fail
        go_loopw [8, 9, 35] (fun lv hv iv wr => ∃ k : Nat, k ≤ S.length ∧ iv = .int .i64 k ∧ OR wr w.heap.size lv (qlow x (S.take k)) ∧ OR wr w.heap.size hv (qhigh x (S.take k)) ∧ apartR lv hv ∧ Below w.heap.size w wr) (fun _ _ iv _ => S.length - (intOf iv).toNat)
        case atStart => exact ⟨0, by omega, rfl, OR.nil _ _, OR.nil _ _, (fun g h => by simp [Value.ownBlock] at h), HB2.out⟩
        case round =>
          clear HB2
          obtain ⟨k, hk, rfl, hL, hH, hap, hB⟩ := hrel
          have HL := Lib.hid hL
          have HH := Lib.hid hH
          have HAP := Lib.hid hap
          have HB := Lib.hid hB
          clear hL hH hap hB
          by_cases hlt : k < S.length
          · obtain ⟨bl, off, rfl, _, hcell⟩ := (HS.out.later HB.out).il (by omega)
            obtain ⟨c0, c1, c2⟩ := hcell k hlt
            have hki : (k : Int) < (S.length : Int) := by omega
            have EL := Lib.hid (qlow_step hlt x)
            have EH := Lib.hid (qhigh_step hlt x)
            have hll := qlow_len x (S.take k)
            have hhl := qhigh_len x (S.take k)
            rw [List.length_take] at hll hhl
            have hb1 := HB.out.alloc HB.out.size (.cells #[.int .i64 (rat S k).n, .int .i64 (rat S k).g, .int .i64 (rat S k).m] 33)
            have HB1 := Lib.hid hb1
            have hL1 := HL.out.alloc (.cells #[.int .i64 (rat S k).n, .int .i64 (rat S k).g, .int .i64 (rat S k).m] 33)
            have hH1 := HH.out.alloc (.cells #[.int .i64 (rat S k).n, .int .i64 (rat S k).g, .int .i64 (rat S k).m] 33)
            have HL1 := Lib.hid hL1
            have HH1 := Lib.hid hH1
            have hbl : ∀ g, u8.ownBlock = some g → g < wr.heap.size := fun g hg => (HL.out.blk hg).2
            have hbh : ∀ g, u9.ownBlock = some g → g < wr.heap.size := fun g hg => (HH.out.blk hg).2
            have HBL := Lib.hid hbl
            have HBH := Lib.hid hbh
            clear hcell hb1 hL1 hH1 hbl hbh
            obtain ⟨r, hr⟩ : ∃ r, rat S k = r := ⟨_, rfl⟩
            rw [hr] at c0 c1 c2 EL EH HL1 HH1 HB1
            obtain ⟨rn, rg, rm⟩ := r
            dsimp only at c0 c1 c2 EL EH HL1 HH1 HB1
            clear hr
            generalize qlow x (S.take k) = L at *
            generalize qhigh x (S.take k) = H at *
            by_cases hc : rn ≤ x
            · rw [if_pos hc] at EL EH
              go_wp2_with (at_builtin; refine wpList_pushR rfl _ _ rfl w.heap.size u8 L rn rg rm rfl HL1.out (wr.heap.size + 1) (by simp) rfl (by omega) HB1.out.size HB1.out ?_)
              intro g cap w2 hO2 hB2 hG hW hgl
              have HO2 := Lib.hid hO2
              have HBN := Lib.hid hB2
              have HH2 := Lib.hid ((HH1.out.alloc _).kept hG HAP.out.ne)
              have HA2 : Hid (apartR (.slice (some ⟨g, 0, none⟩) (L.length + 1) cap) u9) := fun k hk hk2 => by
                have hkg : k = g := by simp [Value.ownBlock] at hk; exact hk.symm
                subst hkg
                rcases hW with h | h
                · exact HAP.out k h hk2
                · have := HBH.out k hk2
                  omega
              clear hO2 hB2 hG hW
              go_wp2
              go_roundw
              case rel => exact ⟨k + 1, by omega, by go_num, by rw [EL.out]; exact HO2.out, by rw [EH.out]; exact HH2.out, HA2.out, HBN.out⟩
              case measure => simp [intOf]; omega
            · rw [if_neg hc] at EL EH
              go_wp2_with (at_builtin; refine wpList_pushR rfl _ _ rfl w.heap.size u9 H rn rg rm rfl HH1.out (wr.heap.size + 1) (by simp) rfl (by omega) HB1.out.size HB1.out ?_)
              intro g cap w2 hO2 hB2 hG hW hgl
              have HO2 := Lib.hid hO2
              have HBN := Lib.hid hB2
              have HL2 := Lib.hid ((HL1.out.alloc _).kept hG HAP.out.symm.ne)
              have HA2 : Hid (apartR u8 (.slice (some ⟨g, 0, none⟩) (H.length + 1) cap)) := fun k hk2 hk => by
                have hkg : k = g := by simp [Value.ownBlock] at hk; exact hk.symm
                subst hkg
                rcases hW with h | h
                · exact HAP.out k hk2 h
                · have := HBL.out k hk2
                  omega
              clear hO2 hB2 hG hW
              go_wp2
              go_roundw
              case rel => exact ⟨k + 1, by omega, by go_num, by rw [EL.out]; exact HL2.out, by rw [EH.out]; exact HO2.out, HA2.out, HBN.out⟩
              case measure => simp [intOf]; omega
          · obtain rfl : k = S.length := by omega
            rw [List.take_length] at HL HH
            have hll := qlow_len x S
            have hhl := qhigh_len x S
            have HTB := Lib.hid (qins_bd HRR.out x)
            have HTT := Lib.hid (qins_tot HRR.out.srt x)
            have HTL := Lib.hid (qins_len HRR.out.srt x)
            have HTE : Hid (qlow x S ++ ⟨x, 1, qmore (qlow x S) (qhigh x S)⟩ :: qhigh x S = qins S x) := rfl
            have hmb := qmore_le (L := qlow x S) HRR.out (fun r hr => (qhigh_mem (x := x) hr).1)
            have HHB : Hid (∀ r ∈ qhigh x S, 1 ≤ r.g ∧ r.g ≤ 1099511627776 ∧ 0 ≤ r.m ∧ r.m ≤ 1099511627776) := fun r hr => HRR.out.each r (qhigh_mem (x := x) hr).1
            have hp1 := HRR.out.p1
            have hp2 := HRR.out.p2
            have HQA : Hid (qadd p S x = qcmp (2 * (qtot S + 1) / p) (qins S x)) := rfl
            generalize qlow x S = L at *
            generalize qhigh x S = H at *
            generalize qadd p S x = RES at *
            obtain ⟨R8, c8, rfl, hP8⟩ := HL.out.rp
            obtain ⟨R9, c9, rfl, hP9⟩ := HH.out.rp
            have hle8 := hP8.le
            have hca8 := hP8.cap
            have hle9 := hP9.le
            have hca9 := hP9.cap
            clear hP8 hP9 HS HRR hlt
            go_upto_region 14 with (fail)
            obtain ⟨bb, hbb⟩ : ∃ bb : Bool, bb = decide (0 < L.length ∧ 0 < H.length) := ⟨_, rfl⟩
            have HBB := Lib.hid hbb
            clear hbb
            go_cut [61] (fun c wx => c = .bool bb ∧ wx = wr.alloc (.cells #[.int .i64 x, .int .i64 1, .int .i64 0] 33))
            case first =>
              by_cases h1 : (0 : Int) < (L.length : Int)
              · by_cases h2 : (0 : Int) < (H.length : Int)
                · go_wp2
                  go_meet
                  case rel => exact ⟨congrArg Value.bool (by rw [HBB.out, decide_eq_true (show 0 < L.length ∧ 0 < H.length by omega)]; simp; omega), rfl⟩
                · go_wp2
                  go_meet
                  case rel => exact ⟨congrArg Value.bool (by rw [HBB.out, decide_eq_false (show ¬ (0 < L.length ∧ 0 < H.length) by omega)]; rw [decide_eq_false_iff_not]; omega), rfl⟩
              · go_wp2
                go_meet
                case rel => exact ⟨congrArg Value.bool (by rw [HBB.out, decide_eq_false (show ¬ (0 < L.length ∧ 0 < H.length) by omega)]), rfl⟩
            case rest =>
              obtain ⟨rfl, rfl⟩ := hcut
              have HL1 := Lib.hid (HL.out.alloc (.cells #[.int .i64 x, .int .i64 1, .int .i64 0] 33))
              have HH1 := Lib.hid (HH.out.alloc (.cells #[.int .i64 x, .int .i64 1, .int .i64 0] 33))
              have HO1 : Hid (Bs 33 (wr.alloc (.cells #[.int .i64 x, .int .i64 1, .int .i64 0] 33)) wr.heap.size [.int .i64 x, .int .i64 1, .int .i64 0]) := heap_alloc_new wr _
              have HB1 := Lib.hid (HB.out.alloc HB.out.size (.cells #[.int .i64 x, .int .i64 1, .int .i64 0] 33))
              have HBL := Lib.hid (fun g hg => (HL.out.blk (g := g) hg).2)
              have HBH := Lib.hid (fun g hg => (HH.out.blk (g := g) hg).2)
              have hwb := HB.out.size
              go_upto_if 61 with (fail)
              go_cut [61] (fun _ wx => Bs 33 wx wr.heap.size [.int .i64 x, .int .i64 1, .int .i64 (qmore L H)] ∧ OR wx w.heap.size (.slice R8 L.length c8) L ∧ OR wx w.heap.size (.slice R9 H.length c9) H ∧ Below w.heap.size w wx)
              case first =>
                cases bb with
                | false =>
                  have E : Hid (qmore L H = 0) := by
                    show _ = _
                    have := of_decide_eq_false HBB.out.symm
                    cases L with
                    | nil => exact qmore_nil1 H
                    | cons a L =>
                      cases H with
                      | nil => exact qmore_nil2 _
                      | cons k H => exact absurd (show 0 < (a :: L).length ∧ 0 < (k :: H).length by simp) this
                  go_wp2
                  go_meet
                  case rel => exact ⟨by rw [E.out]; exact HO1.out, HL1.out, HH1.out, HB1.out⟩
                | true =>
                  have hb := of_decide_eq_true HBB.out.symm
                  obtain ⟨g9, c9', e9, _, _, _, _, hf9⟩ := HH1.out.form rfl hb.2
                  injection e9 with q1 q2 q3
                  subst q1 q3
                  have E : Hid (qmore L H = (rat H 0).g + (rat H 0).m - 1) := by
                    show _ = _
                    cases L with
                    | nil => simp at hb
                    | cons a L =>
                      cases H with
                      | nil => simp at hb
                      | cons k H => rfl
                  obtain ⟨_, k1, k2⟩ := hf9.at (i := 0) hb.2
                  have hk := HHB.out _ (rat_mem hb.2)
                  simp only [Nat.zero_mul, Nat.zero_add] at k1 k2
                  have hhi : (0 : Int) < (H.length : Int) := by omega
                  have HL2 := Lib.hid (HL.out.alloc (.cells #[.int .i64 x, .int .i64 1, .int .i64 ((rat H 0).g + (rat H 0).m - 1)] 33))
                  have HH2 := Lib.hid (HH.out.alloc (.cells #[.int .i64 x, .int .i64 1, .int .i64 ((rat H 0).g + (rat H 0).m - 1)] 33))
                  have HO2 : Hid (Bs 33 (wr.alloc (.cells #[.int .i64 x, .int .i64 1, .int .i64 ((rat H 0).g + (rat H 0).m - 1)] 33)) wr.heap.size [.int .i64 x, .int .i64 1, .int .i64 ((rat H 0).g + (rat H 0).m - 1)]) := heap_alloc_new wr _
                  have HB2 := Lib.hid (HB.out.alloc HB.out.size (.cells #[.int .i64 x, .int .i64 1, .int .i64 ((rat H 0).g + (rat H 0).m - 1)] 33))
                  clear hf9 hb HBH HBL
                  generalize (rat H 0).g = kg at *
                  generalize (rat H 0).m = km at *
                  go_wp2_with fail
                  go_region
                  go_wp2
                  go_meet
                  case rel => exact ⟨by rw [E.out]; exact HO2.out, HL2.out, HH2.out, HB2.out.drew⟩
              case rest =>
                obtain ⟨hO, hL, hH, hB⟩ := hcut
                clear HL1 HH1 HO1 HB1 HBL HBH HBB hwb bb HL HH HB
                have HL := Lib.hid hL
                have HH := Lib.hid hH
                have HB := Lib.hid hB
                have o0 : wc.cell? ⟨wr.heap.size, 0, none⟩ = some (.int .i64 x) := by have := hO.cell (j := 0) (by simp); simpa using this
                have o1 : wc.cell? ⟨wr.heap.size, 1, none⟩ = some (.int .i64 1) := by have := hO.cell (j := 1) (by simp); simpa using this
                have o2 : wc.cell? ⟨wr.heap.size, 2, none⟩ = some (.int .i64 (qmore L H)) := by have := hO.cell (j := 2) (by simp); simpa using this
                clear hO hL hH hB
                have HHA := Lib.hid (HH.out.alloc (.cells #[.int .i64 x, .int .i64 1, .int .i64 (qmore L H)] 33))
                generalize qmore L H = M at *
                go_wp2_with (at_builtin; refine wpList_pushR rfl _ _ rfl w.heap.size (.slice R8 L.length c8) L x 1 M rfl HL.out wc.heap.size rfl rfl (by omega) HB.out.size HB.out ?_)
                intro g cap w2 hO2 hB2 hG hW hgl
                have hH2 := HHA.out.kept hG HAP.out.ne
                have HO2 := Lib.hid hO2
                have HBN := Lib.hid hB2
                obtain ⟨R9', c9', e9, hP9⟩ := hH2.rp
                injection e9 with q1 q2 q3
                subst q1 q3
                have HP9 := Lib.hid hP9
                clear hO2 hB2 hG hW hH2 hP9 HL HH HB HHA o0 o1 o2
                go_wp2_with (at_builtin; refine wpList_appR rfl _ _ rfl w.heap.size (.slice (some ⟨g, 0, none⟩) (L.length + 1) cap) (L ++ [⟨x, 1, M⟩]) rfl HO2.out R9 H.length c9 H rfl rfl HP9.out (by rw [List.length_append]; simp; omega) HBN.out.size ?_)
                intro v3 w3 hO3 hB3 _
                rw [HTE.out] at hO3
                have HB4 := Lib.hid (HBN.out.trans hB3)
                obtain ⟨R13, c13, rfl, hP13⟩ := hO3.rp
                have HT := Lib.hid hP13
                clear hO3 hB3 hP13 HO2 HP9 HBN HTE
                have htb := HTB.out
                have htt := HTT.out
                have hT1 : 1 ≤ (qins S x).length := by rw [HTL.out]; omega
                have hT2 : (qins S x).length ≤ 401 := by rw [HTL.out]; omega
                have htg : ∀ r ∈ qins S x, r.g ≤ 1099511627776 := fun r hr => by
                  have := qtot_mem (fun y hy => by have := htb y hy; omega) r hr
                  rw [htt] at this
                  omega
                have htot0 : 0 ≤ qtot S + 1 := by rw [← htt]; exact qtot_nonneg (fun y hy => by have := htb y hy; omega)
                have HTG := Lib.hid htg
                clear htg
                generalize qins S x = T at *
                have COA := Lib.hid (oall_any R13 c13 T w3 HT.out (fun r hr => by have := htb r hr; omega) (by omega))
                rw [htt] at COA
                obtain ⟨tt, htt2⟩ : ∃ tt, qtot S + 1 = tt := ⟨_, rfl⟩
                rw [htt2] at COA HQA htt htot0
                have ht1 : tt ≤ 1099511627776 := by omega
                have hdv : (2 * tt).tdiv p = 2 * tt / p := Int.tdiv_eq_ediv_of_nonneg (by omega)
                have hd0 : 0 ≤ 2 * tt / p := Int.ediv_nonneg (by omega) (by omega)
                have hd1 : 2 * tt / p ≤ 2199023255552 := Int.le_trans (Int.ediv_le_self _ (by omega)) (by omega)
                have HTQ : Hid (qtot T ≤ 2199023255552) := by show qtot T ≤ _; omega
                clear htt htt2 htb HTT HTL
                generalize 2 * tt / p = b at *
                go_wp2_with fail
                refine COA.out.mono ?_
                rintro e w4 ⟨rfl, hb⟩
                have HB5 := Lib.hid (HB4.out.trans (hb.mono HB4.out.size))
                have HT5 := Lib.hid (HT.out.later hb)
                have hleT := HT.out.le
                have hcaT := HT.out.cap
                clear hb HB4 HT COA
                go_wp2_with fail
                obtain ⟨B2, hB2⟩ : ∃ B2, w4.heap.size = B2 := ⟨_, rfl⟩
                have HB2 := Lib.hid hB2
                clear hB2
                go_loopw [15, 16] (fun bv kv wr => ∃ (j : Nat) (kk : Int), j ≤ T.length ∧ kk = (j : Int) - 1 ∧ kv = .int .i64 kk ∧ OR wr B2 bv (qback b T j) ∧ Below B2 w4 wr) (fun _ kv _ => (intOf kv + 1).toNat)
                case atStart => exact ⟨T.length, (T.length : Int) - 1, Nat.le_refl _, rfl, rfl, by rw [qback_start b T (by omega)]; exact OR.nil _ _, Below.refl _ _⟩
                case round =>
                  obtain ⟨j, kk, hj, hkk, rfl, hO, hD⟩ := hrel
                  have HO := Lib.hid hO
                  have HD := Lib.hid hD
                  clear hO hD
                  by_cases hpos : 0 ≤ kk
                  · obtain ⟨i, rfl⟩ : ∃ i : Nat, kk = (i : Int) := ⟨kk.toNat, by omega⟩
                    obtain rfl : j = i + 1 := by omega
                    have hil : i < T.length := by omega
                    obtain ⟨b13, o13, rfl, _, hcell⟩ := (HT5.out.later (by have := HD.out; rw [← HB2.out] at this; exact this)).il (by omega)
                    obtain ⟨c0, c1, c2⟩ := hcell i hil
                    have hii : (i : Int) < (T.length : Int) := by omega
                    obtain ⟨t1, t2, t3⟩ := HTB.out _ (rat_mem hil)
                    have t4 := HTG.out _ (rat_mem hil)
                    have HKB := Lib.hid (qback_bd HTB.out HTQ.out (b := b) (i + 1))
                    have hkl := qback_len (b := b) (T := T) (i + 1)
                    have QF : Hid (i = 0 → qback b T i = qback b T (i + 1) ++ [rat T i]) := fun e => by subst e; exact qback_first (by omega)
                    have QL : Hid (0 < i → i + 1 = T.length → qback b T i = qback b T (i + 1) ++ [rat T i]) := fun h1 h2 => qback_last h1 h2
                    have QT := Lib.hid (qback_take (b := b) (T := T) (j := i))
                    have QP := Lib.hid (qback_push (b := b) (T := T) (j := i))
                    have QZ : Hid (i + 1 = T.length → (qback b T (i + 1)).length = 0) := fun h => by rw [h, qback_start b T (by omega)]; rfl
                    have QN : Hid (i + 1 < T.length → 0 < (qback b T (i + 1)).length) := fun h => by obtain ⟨k, l, _, _, e⟩ := qback_head (b := b) h; omega
                    have HO1 := Lib.hid (HO.out.alloc (.cells #[.int .i64 (rat T i).n, .int .i64 (rat T i).g, .int .i64 (rat T i).m] 33))
                    have HD1 := Lib.hid (HD.out.alloc (by have := HD.out.size; have := HB2.out; omega) (.cells #[.int .i64 (rat T i).n, .int .i64 (rat T i).g, .int .i64 (rat T i).m] 33))
                    clear hcell hkk hpos
                    obtain ⟨r, hr⟩ : ∃ r, rat T i = r := ⟨_, rfl⟩
                    rw [hr] at c0 c1 c2 t1 t2 t3 t4 QF QL QT QP HO1 HD1
                    obtain ⟨rn, rg, rm⟩ := r
                    dsimp only at c0 c1 c2 t1 t2 t3 t4 QF QL QT QP HO1 HD1
                    clear hr
                    generalize qback b T (i + 1) = K at *
                    obtain ⟨RB, cB, rfl, hPB⟩ := HO.out.rp
                    have hleK := hPB.le
                    have hcaK := hPB.cap
                    clear hPB
                    by_cases hlast : i + 1 = T.length
                    · have HS : Hid (qback b T i = K ++ [⟨rn, rg, rm⟩]) := by
                        by_cases e : i = 0
                        · exact QF.out e
                        · exact QL.out (by omega) hlast
                      have hz := QZ.out hlast
                      have d1 : decide ((0 : Int) < (K.length : Int)) = false := decide_eq_false (by omega)
                      have d1n : decide (0 < K.length) = false := decide_eq_false (by omega)
                      clear QF QL QT QP QZ QN hlast hz
                      go_wp2_with fail
                      go_quiet (fail)
                      go_wp2_with (at_builtin; refine wpList_pushR rfl _ _ rfl B2 (.slice RB K.length cB) K rn rg rm rfl (HO1.out.later (below_drewN (Below.refl _ _) nq)) (wr.heap.size + 1) (by simp) rfl (by omega) (Nat.le_trans (Nat.le_of_eq HB2.out.symm) (below_drewN HD1.out nq).size) (below_drewN HD1.out nq) ?_)
                      intro g3 cap3 w6 hO6 hB6 _ _ _
                      have HO6 := Lib.hid hO6
                      have HB6 := Lib.hid hB6
                      clear hO6 hB6
                      go_wp2
                      go_roundw
                      case rel => exact ⟨i, (i : Int) - 1, by omega, rfl, by go_num, by rw [HS.out]; exact HO6.out, HB6.out⟩
                      case measure => simp [intOf]
                    · have hkp := QN.out (by omega)
                      have d1 : decide ((0 : Int) < (K.length : Int)) = true := decide_eq_true (by omega)
                      have d1n : decide (0 < K.length) = true := decide_eq_true (by omega)
                      by_cases hi0 : i = 0
                      · have HS := Lib.hid (QF.out hi0)
                        have d2 : decide ((0 : Int) < (i : Int)) = false := decide_eq_false (by omega)
                        have d2n : decide (0 < i) = false := decide_eq_false (by omega)
                        clear QF QL QT QP QZ QN hlast hi0
                        go_wp2_with fail
                        go_quiet (fail)
                        go_wp2_with (at_builtin; refine wpList_pushR rfl _ _ rfl B2 (.slice RB K.length cB) K rn rg rm rfl (HO1.out.later (below_drewN (Below.refl _ _) nq)) (wr.heap.size + 1) (by simp) rfl (by omega) (Nat.le_trans (Nat.le_of_eq HB2.out.symm) (below_drewN HD1.out nq).size) (below_drewN HD1.out nq) ?_)
                        intro g3 cap3 w6 hO6 hB6 _ _ _
                        have HO6 := Lib.hid hO6
                        have HB6 := Lib.hid hB6
                        clear hO6 hB6
                        go_wp2
                        go_roundw
                        case rel => exact ⟨i, (i : Int) - 1, by omega, rfl, by go_num, by rw [HS.out]; exact HO6.out, HB6.out⟩
                        case measure => simp [intOf]
                      · have d2 : decide ((0 : Int) < (i : Int)) = true := decide_eq_true (by omega)
                        have d2n : decide (0 < i) = true := decide_eq_true (by omega)
                        obtain ⟨gb, cb', eb, hgb, hgb2, _, _, hfb⟩ := HO.out.form rfl hkp
                        injection eb with q1 q2 q3
                        subst q1 q3
                        obtain ⟨m, hm⟩ : ∃ m, K.length - 1 = m := ⟨_, rfl⟩
                        have hmi : (K.length : Int) - 1 = (m : Int) := by omega
                        have hml : m < K.length := by omega
                        have hmli : (m : Int) < (K.length : Int) := by omega
                        obtain ⟨k0, k1, k2⟩ := hfb.at hml
                        obtain ⟨⟨f1, f2, f3⟩, f4⟩ := HKB.out _ (rat_mem hml)
                        have fz := hfb.frozen (m * 3 + 1)
                        have HO2 := Lib.hid (fun (w' : World) (h : OR w' B2 (.slice (some ⟨gb, 0, none⟩) K.length cB) K) => h.setg hml ((rat K m).g + rg))
                        have HGB := Lib.hid hgb
                        have QT2 := Lib.hid (QT.out (by omega) (by omega))
                        have QP2 := Lib.hid (QP.out (by omega) (by omega))
                        rw [hm] at QT2 QP2
                        clear QF QL QT QP QZ QN hlast hi0 hfb hkp hm
                        obtain ⟨kr, hkr⟩ : ∃ kr, rat K m = kr := ⟨_, rfl⟩
                        rw [hkr] at k0 k1 k2 f1 f2 f3 f4 HO2 QT2 QP2
                        obtain ⟨kn, kg, km⟩ := kr
                        dsimp only at k0 k1 k2 f1 f2 f3 f4 HO2 QT2 QP2
                        clear hkr
                        by_cases hs : rg + kg + km ≤ b
                        · have d3 : decide (rg + kg + km ≤ b) = true := decide_eq_true hs
                          have HS := Lib.hid (QT2.out hs)
                          clear QT2 QP2
                          go_wp2_with fail
                          go_quiet (fail)
                          go_wp2_with fail
                          go_region
                          go_wp2
                          go_roundw
                          case rel => exact ⟨i, (i : Int) - 1, by omega, rfl, by go_num, by rw [HS.out]; exact HO2.out _ (HO1.out.later (below_drewN (Below.refl _ _) (nq + 1))), (below_drewN HD1.out (nq + 1)).setCell (p := ⟨gb, m * 3 + 1, none⟩) HGB.out (.int .i64 (kg + rg))⟩
                          case measure => simp [intOf]
                        · have d3 : decide (rg + kg + km ≤ b) = false := decide_eq_false hs
                          have HS := Lib.hid (QP2.out hs)
                          clear QT2 QP2
                          go_wp2_with fail
                          go_quiet (fail)
                          go_wp2_with (at_builtin; refine wpList_pushR rfl _ _ rfl B2 (.slice (some ⟨gb, 0, none⟩) K.length cB) K rn rg rm rfl (HO1.out.later (below_drewN (Below.refl _ _) nq)) (wr.heap.size + 1) (by simp) rfl (by omega) (Nat.le_trans (Nat.le_of_eq HB2.out.symm) (below_drewN HD1.out nq).size) (below_drewN HD1.out nq) ?_)
                          intro g3 cap3 w6 hO6 hB6 _ _ _
                          have HO6 := Lib.hid hO6
                          have HB6 := Lib.hid hB6
                          clear hO6 hB6
                          go_wp2
                          go_roundw
                          case rel => exact ⟨i, (i : Int) - 1, by omega, rfl, by go_num, by rw [HS.out]; exact HO6.out, HB6.out⟩
                          case measure => simp [intOf]
                  · obtain rfl : j = 0 := by omega
                    obtain rfl : kk = -1 := by omega
                    have hO := HO.out
                    unfold qback at hO
                    rw [if_pos rfl, ← HQA.out] at hO
                    have hrl : RES.length ≤ 401 := by rw [HQA.out]; exact Nat.le_trans (qcmp_len b T) hT2
                    obtain ⟨RB, cB, rfl, hPB⟩ := hO.rp
                    have HP := Lib.hid hPB
                    have hleK := hPB.le
                    have hcaK := hPB.cap
                    rw [List.length_reverse] at hleK ⊢
                    have HDW := Lib.hid (HB5.out.trans (HD.out.mono (Nat.le_trans HB5.out.size (Nat.le_of_eq HB2.out))))
                    obtain ⟨w5, hw5⟩ : ∃ w5, w5 = wr := ⟨_, rfl⟩
                    rw [← hw5] at HP HDW
                    obtain ⟨B3, hB3⟩ : ∃ B3, w5.heap.size = B3 := ⟨_, rfl⟩
                    have HB3 := Lib.hid hB3
                    clear hO hPB HO HD HTB HTG HTQ hB3 hT1 hT2 hkk hpos hj
                    subst hw5
                    go_wp2_with fail
                    go_loopw [19, 20] (fun ov kv wr => ∃ (j : Nat) (kk : Int), j ≤ RES.length ∧ kk = (j : Int) - 1 ∧ kv = .int .i64 kk ∧ OR wr B3 ov (RES.take (RES.length - j)) ∧ Below B3 w5 wr) (fun _ kv _ => (intOf kv + 1).toNat)
                    case atStart => exact ⟨RES.length, (RES.length : Int) - 1, Nat.le_refl _, rfl, rfl, by rw [Nat.sub_self]; exact OR.nil _ _, Below.refl _ _⟩
                    case round =>
                      obtain ⟨j, kk, hj, hkk, rfl, hO, hD⟩ := hrel
                      have HO := Lib.hid hO
                      have HD := Lib.hid hD
                      clear hO hD
                      by_cases hpos : 0 ≤ kk
                      · obtain ⟨i, rfl⟩ : ∃ i : Nat, kk = (i : Int) := ⟨kk.toNat, by omega⟩
                        obtain rfl : j = i + 1 := by omega
                        have hil : i < RES.reverse.length := by rw [List.length_reverse]; omega
                        obtain ⟨bb, ob, rfl, _, hcell⟩ := (HP.out.later (by have := HD.out; rw [← HB3.out] at this; exact this)).il (by omega)
                        obtain ⟨c0, c1, c2⟩ := hcell i hil
                        rw [List.length_reverse] at hil
                        have hii : (i : Int) < (RES.length : Int) := by omega
                        have HE : Hid (RES.take (RES.length - i) = RES.take (RES.length - (i + 1)) ++ [rat RES.reverse i]) := by
                          show _ = _
                          rw [rat_rev hil, show RES.length - i = RES.length - (i + 1) + 1 by omega, rat_take (by omega), show RES.length - 1 - i = RES.length - (i + 1) by omega]
                        have hkl : (RES.take (RES.length - (i + 1))).length ≤ 401 := by rw [List.length_take]; omega
                        have hsz := Nat.le_trans (Nat.le_of_eq HB3.out.symm) HD.out.size
                        clear hcell hkk hpos
                        obtain ⟨r, hr⟩ : ∃ r, rat RES.reverse i = r := ⟨_, rfl⟩
                        rw [hr] at c0 c1 c2 HE
                        obtain ⟨rn, rg, rm⟩ := r
                        dsimp only at c0 c1 c2 HE
                        clear hr
                        generalize RES.take (RES.length - (i + 1)) = K at *
                        go_wp2_with (at_builtin; refine wpList_pushR rfl _ _ rfl B3 u19 K rn rg rm rfl HO.out wr.heap.size rfl rfl (by omega) hsz HD.out ?_)
                        intro g3 cap3 w6 hO6 hB6 _ _ _
                        have HO6 := Lib.hid hO6
                        have HB6 := Lib.hid hB6
                        clear hO6 hB6
                        go_wp2
                        go_roundw
                        case rel => exact ⟨i, (i : Int) - 1, by omega, rfl, by go_num, by rw [HE.out]; exact HO6.out, HB6.out⟩
                        case measure => simp [intOf]
                      · obtain rfl : j = 0 := by omega
                        obtain rfl : kk = -1 := by omega
                        have hO := HO.out
                        rw [Nat.sub_zero, List.take_length] at hO
                        obtain ⟨RO, cO, rfl, hPO⟩ := hO.rp
                        have HPO := Lib.hid hPO
                        have HBX := Lib.hid (HDW.out.trans (HD.out.mono (Nat.le_trans HDW.out.size (Nat.le_of_eq HB3.out))))
                        clear hO hPO hkk hpos hj
                        go_wp2
                        go_ret2
                        exact ⟨RO, cO, rfl, HPO.out, HBX.out⟩
  · have CR := Lib.hid (C1.out false ⟨(fun h => by cases h), fun h => absurd h hR⟩)
    have E : Hid (qaddC p S x = ([], 1)) := if_neg hR
    rw [E.out]
    clear hR C1
    go_enter Try.func9, Try.ntmps9
    go_wp2_with fail
    refine CR.out.mono ?_
    rintro e w1 ⟨rfl, hb⟩
    have HB := Lib.hid hb
    clear hb
    go_wp2
    go_ret2
    exact rpost_nil 1 HB.out
end Go.Proofs.Ytimcbeblmicioaa
