/- lotdrawerref.HMake: the walk's first part. -/
import Derived.Test.YtjhcbjpbmbjgoaaHp
import Derived.Test.YtjhcbjpbmbjgoaaHr
import Derived.Deep.QuietTactic
import Derived.BigQuiet
import Derived.StillTailTactics
import Derived.Deep.Cut
namespace Go.Proofs.Ytjhcbjpbmbjgoaa
open Go.RowKit Go.Deep

theorem hi_eq {s : Int} {W : List Int} {S : AT} (h : InvA s W S) : first (fun i => decide (too S i = i) && decide (s < lev S i)) S.length = hiI s S := by
  refine first_congr fun j hj => ?_
  unfold highP
  by_cases e : too S j = j
  · rw [decide_eq_true e, Bool.true_and]
  · have := h.cl j hj e
    rw [decide_eq_false e, decide_eq_false (show ¬ s < lev S j by omega)]
    rfl
theorem take_at {S : AT} {k : Nat} (h : k < S.length) : S.take (k + 1) = S.take k ++ [(lev S k, too S k)] := by
  rw [List.take_succ_eq_append_getElem h]
  congr 2
  unfold lev too
  simp [List.getD_eq_getElem?_getD, h]
/-- What the first loop keeps. -/
structure L1 (w : World) (W : List Int) (k : Nat) (v : Value) (wr : World) : Prop where
  sum : Bs 3 wr w.heap.size [.int .i64 (sumW W)]
  var : Bs 56 wr (w.heap.size + 1) [v]
  row : wr.ownsRow (w.heap.size + 2) 58 4 v k (pvs (sumW W) 0 ((initA W).take k))
  bel : Below w.heap.size w wr
/-- What the second loop keeps. -/
structure L2 (w : World) (W : List Int) (g cap : Nat) (S : AT) (wr : World) : Prop where
  inv : InvA (sumW W) W S
  sum : Bs 3 wr w.heap.size [.int .i64 (sumW W)]
  var : Bs 56 wr (w.heap.size + 1) [.slice (some ⟨g, 0, none⟩) W.length cap]
  row : wr.ownsRow (w.heap.size + 2) 58 4 (.slice (some ⟨g, 0, none⟩) W.length cap) W.length (pvs (sumW W) 0 S)
  bel : Below w.heap.size w wr
theorem L2.later {w : World} {W : List Int} {g cap : Nat} {S : AT} {wr w' : World} (h : L2 w W g cap S wr) (hb : Below wr.heap.size wr w') : L2 w W g cap S w' :=
  ⟨h.inv, Bs.below h.sum hb (Bs.lt h.sum), Bs.below h.var hb (Bs.lt h.var), ownsRow_later h.row hb, h.bel.trans (hb.mono h.bel.size)⟩
theorem L2.pv {w : World} {W : List Int} {g cap : Nat} {S : AT} {wr : World} (h : L2 w W g cap S wr) : PV wr (w.heap.size + 1) g W.length cap (sumW W) S :=
  pv_of h.row h.inv.len (Bs.cell h.var (j := 0) (by simp)) (Bs.lt h.var)
theorem L2.g2 {w : World} {W : List Int} {g cap : Nat} {S : AT} {wr : World} (h : L2 w W g cap S wr) : w.heap.size + 2 ≤ g := (World.ownsRow.lt h.row g rfl).1
theorem init_step {W : List Int} {k : Nat} (h : k < W.length) (s : Int) : pvs s 0 ((initA W).take (k + 1)) = pvs s 0 ((initA W).take k) ++ [.int .i64 (W.getD k 0 * (W.length : Int)), .int .i64 s, .int .i64 k, .bool true] := by
  have hl : k < (initA W).length := by rw [initA_len]; exact h
  have e : lev (initA W) k = W.getD k 0 * (W.length : Int) ∧ too (initA W) k = k := by unfold lev too; rw [initA_at h]; exact ⟨rfl, rfl⟩
  rw [take_at hl, pvs_append, e.1, e.2, List.length_take, Nat.zero_add, show min k (initA W).length = k by omega]
  simp

set_option maxRecDepth 100000 in
set_option maxHeartbeats 4000000 in
theorem hmake_any (A : Option Addr) (ca : Nat) (W : List Int) (w : World) (hW : IP w A ca W) :
    Calls Try.prog 16 #[.slice A W.length ca] w (APost w (makeC W)) := by
  have hmf : ∀ (fn : Fn) (first cap : Array Value) (w : World), (Instr.makeFunc fn first cap).run Try.prog w = .ok (.func fn first cap) w := fun _ _ _ _ => rfl
  have hen1 := enters_f1
  have hle := hW.le
  have hcap := hW.cap
  have CS := Lib.hid (hsum_any A ca W w hW)
  unfold ptup at CS
  rcases sumC_err W with h | h | h
  · have E : Hid (makeC W = (makeA W, 0)) := if_pos h
    obtain ⟨hR, he, hs0⟩ := sumC_ok h
    have hsl := sumW_le hR.2.2
    have hn4 := hR.2.1
    have hn1 := hR.1
    have HI := Lib.hid (initA_inv hR.nonneg)
    have HR := Lib.hid hR
    have HW := Lib.hid hW
    rw [he] at CS
    have HL1 : Hid (L1 w W 0 (.slice none 0 0) ((w.alloc (.cells #[.int .i64 (sumW W)] 3)).alloc (.cells #[.slice none 0 0] 56))) :=
      ⟨heap_alloc_old _ _ (by simp) |>.trans (heap_alloc_new w _), heap_alloc2_new w _ _, World.ownsRow_nil _ _ _ _, ((Below.refl _ _).alloc (Nat.le_refl _) _).alloc (by simp) _⟩
    clear h he hs0 hR hW
    go_enter Try.func16, Try.ntmps16
    go_wp2_with fail
    refine CS.out.mono ?_
    rintro e w0 ⟨rfl, rfl⟩
    clear CS
    go_wp2_with fail
    go_loopw [26] (fun iv wr => ∃ (k : Nat) (v : Value), k ≤ W.length ∧ iv = .int .i64 k ∧ L1 w W k v wr) (fun iv _ => W.length - (intOf iv).toNat)
    case atStart => exact ⟨0, _, by omega, rfl, HL1.out⟩
    case round =>
      clear HL1
      obtain ⟨k, v, hk, rfl, hL⟩ := hrel
      have HL := Lib.hid hL
      have hv := Bs.cell hL.var (j := 0) (by simp)
      have hs := Bs.cell hL.sum (j := 0) (by simp)
      have hls := Bs.lt hL.sum
      have hlv := Bs.lt hL.var
      simp only [List.getElem?_cons_zero] at hv hs
      by_cases hlt : k < W.length
      · obtain ⟨b, off, rfl, _, hcell⟩ := (HW.out.il.later hL.bel).at (by omega)
        have hci := hcell k hlt
        have hx := HR.out.2.2 _ (memW hlt)
        have hm := mul_bound hx.1 hx.2 hn4
        have EP := Lib.hid (init_step hlt (sumW W))
        clear hcell hL
        generalize W.getD k 0 = x at *
        go_wp2_with (at_builtin; refine wpList_pushN rfl (.tmp 31) (.tmp 39) 56 58 _ 4 32 rfl Try.underlying56 info_place rfl (by decide) (w.heap.size + 2) w.heap.size v k (pvs (sumW W) 0 ((initA W).take k)) [.int .i64 (x * (W.length : Int)), .int .i64 (sumW W), .int .i64 k, .bool true] rfl HL.out.row wr.heap.size rfl rfl rfl (by simp [Value.oneCell']) (by omega) (by decide) (by omega) (by omega) HL.out.bel ?_)
        intro g cap w2 ho2 hb2 hg2 hlt2 hBg2
        have hne : ∀ j, j < w.heap.size + 2 → some j ≠ v.ownBlock := fun j hj e => by have := (World.ownsRow.lt HL.out.row j e.symm).1; omega
        have hv2 : Bs 56 w2 (w.heap.size + 1) [v] := (hg2.block _ (by simp; omega) (hne _ (by omega))).trans ((heap_alloc_old wr _ hlv).trans HL.out.var)
        have hs2 : Bs 3 w2 w.heap.size [.int .i64 (sumW W)] := (hg2.block _ (by simp; omega) (hne _ (by omega))).trans ((heap_alloc_old wr _ hls).trans HL.out.sum)
        have hc2 := Bs.cell hv2 (j := 0) (by simp)
        have hf2 := Bs.frozen hv2 0
        simp only [List.getElem?_cons_zero] at hc2
        have HL2 : Hid (L1 w W (k + 1) (.slice (some ⟨g, 0, none⟩) (k + 1) cap) (w2.setCell ⟨w.heap.size + 1, 0, none⟩ (.slice (some ⟨g, 0, none⟩) (k + 1) cap))) := by
          refine ⟨hs2.other (a := ⟨w.heap.size + 1, 0, none⟩) (by show w.heap.size ≠ w.heap.size + 1; omega) _, Bs.set hv2 0 _, ?_, hb2.setCell (p := ⟨w.heap.size + 1, 0, none⟩) (by show w.heap.size ≤ w.heap.size + 1; omega) _⟩
          rw [EP.out]
          exact ownsRow_setCell_other ho2 (a := ⟨w.heap.size + 1, 0, none⟩) (by simp [Value.ownBlock]; omega) _
        clear ho2 hb2 hg2 hne hv2 hs2 EP hv hs
        go_wp2
        go_roundw
        case rel => exact ⟨k + 1, _, by omega, by go_num, HL2.out⟩
        case measure => simp [intOf]; omega
      · obtain rfl : k = W.length := by omega
        obtain ⟨g, cap, rfl, hBg, hgl⟩ := hL.row.form (by omega)
        have hT : (initA W).take W.length = initA W := List.take_of_length_le (by rw [initA_len]; exact Nat.le_refl _)
        have hL2 : L2 w W g cap (initA W) wr := by
          refine ⟨HI.out, hL.sum, hL.var, ?_, hL.bel⟩
          have := hL.row
          rw [hT] at this
          exact this
        have HLL := Lib.hid hL2
        have hpv := hL2.pv
        have hca1 := hpv.le
        have hca2 := hpv.cap
        clear hL HL hL2 hT hBg hgl hpv hs
        obtain ⟨wI, hwI⟩ : ∃ wI, wI = wr := ⟨_, rfl⟩
        subst hwI
        go_wp2_with fail
        clear hv
        go_loopw [10, 11, 12, 45] (fun _ _ _ iv wr => ∃ (k : Nat) (S : AT), k ≤ W.length ∧ iv = .int .i64 k ∧ L2 w W g cap S wr ∧ runA (sumW W) (W.length - k) S = makeA W) (fun _ _ _ iv _ => W.length - (intOf iv).toNat)
        case atStart => exact ⟨0, initA W, by omega, rfl, HLL.out, rfl⟩
        case round =>
          clear HLL
          obtain ⟨k, S, hk, rfl, hL, hrun⟩ := hrel
          have HL := Lib.hid hL
          have HRUN := Lib.hid hrun
          have hv := Bs.cell hL.var (j := 0) (by simp)
          simp only [List.getElem?_cons_zero] at hv
          clear hrun
          by_cases hlt : k < W.length
          · have hcs := Bs.cell hL.sum (j := 0) (by simp)
            have hls := Bs.lt hL.sum
            simp only [List.getElem?_cons_zero] at hcs
            have CL : Calls Try.prog 29 #[.func (.func 30) #[] #[.pointer (some ⟨w.heap.size, 0, none⟩)], .pointer (some ⟨w.heap.size + 1, 0, none⟩)] wr fun e w' => e = .returned (.int .i64 (loI (sumW W) S)) ∧ Below wr.heap.size wr w' :=
              find_any 30 #[.pointer (some ⟨w.heap.size, 0, none⟩)] (fun h => decide (h < sumW W)) (w.heap.size + 1) g W.length cap (sumW W) S wr hL.pv enters_f2 (fun a h l t o hb => less_any h l t (sumW W) o w.heap.size a ((hb.cell (p := ⟨w.heap.size, 0, none⟩) hls).trans hcs) (Nat.lt_of_lt_of_le hls hb.size))
            have CL := Lib.hid CL
            have HCS := Lib.hid hcs
            clear hL hcs hv
            go_wp2_with fail
            refine CL.out.mono ?_
            rintro e w3 ⟨rfl, hb3⟩
            have HL3 := Lib.hid (HL.out.later hb3)
            have CH : Calls Try.prog 29 #[.func (.func 31) #[] #[.pointer (some ⟨w.heap.size, 0, none⟩)], .pointer (some ⟨w.heap.size + 1, 0, none⟩)] w3 fun e w' => e = .returned (.int .i64 (hiI (sumW W) S)) ∧ Below w3.heap.size w3 w' := by
              have := find_any 31 #[.pointer (some ⟨w.heap.size, 0, none⟩)] (fun h => decide (sumW W < h)) (w.heap.size + 1) g W.length cap (sumW W) S w3 HL3.out.pv enters_f3 (fun a h l t o hb => more_any h l t (sumW W) o w.heap.size a ((hb.cell (p := ⟨w.heap.size, 0, none⟩) (Nat.lt_of_lt_of_le hls hb3.size)).trans ((hb3.cell (p := ⟨w.heap.size, 0, none⟩) hls).trans HCS.out)) (Nat.lt_of_lt_of_le (Nat.lt_of_lt_of_le hls hb3.size) hb.size))
              rw [hi_eq HL.out.inv] at this
              exact this
            have CH := Lib.hid CH
            clear hb3 CL HL HCS
            go_wp2_with fail
            refine CH.out.mono ?_
            rintro e w4 ⟨rfl, hb4⟩
            have HL4 := Lib.hid (HL3.out.later hb4)
            clear hb4 CH HL3
            rcases lo_cases (sumW W) S with ⟨l1, _⟩ | ⟨L, l1, l2, l3, l4⟩
            · have HLT : Hid (L2 w W g cap (makeA W) w4) := by
                show L2 _ _ _ _ _ _
                have h1 := HRUN.out
                rw [runA_stop (by omega)] at h1
                rw [← h1]
                exact HL4.out
              rw [l1]
              clear HL4 HRUN l1
              obtain ⟨wT, hwT⟩ : ∃ wT, wT = w4 := ⟨_, rfl⟩
              subst hwT
              have hvT := HLT.out.pv.var
              go_wp2_with fail
              clear hvT
              go_loopw [13, 88] (fun ov iv wr => ∃ k : Nat, k ≤ W.length ∧ iv = .int .i64 k ∧ wr.ownsRow wT.heap.size 41 2 ov k (avs ((makeA W).take k)) ∧ Below wT.heap.size wT wr) (fun _ iv _ => W.length - (intOf iv).toNat)
              case atStart => exact ⟨0, by omega, rfl, World.ownsRow_nil _ _ _ _, Below.refl _ _⟩
              case round =>
                obtain ⟨m, hm, rfl, hO, hB⟩ := hrel
                have HO := Lib.hid hO
                have HBr := Lib.hid hB
                clear hO hB
                by_cases hmt : m < W.length
                · obtain ⟨c0, c1, c2, c3⟩ := (HLT.out.pv.later HBr.out).at_ m hmt
                  have elv : lvP (sumW W) (makeA W) m = lev (makeA W) m := by
                    unfold lvP
                    split
                    · rename_i e; exact (makeA_open HR.out.nonneg m hmt e).symm
                    · rfl
                  rw [elv] at c1
                  have EA : Hid (avs ((makeA W).take (m + 1)) = avs ((makeA W).take m) ++ [.int .i64 (lev (makeA W) m), .int .i64 (too (makeA W) m)]) := by
                    show _ = _
                    rw [take_at (by rw [makeA_len HR.out.nonneg]; exact hmt), avs_append]
                  clear elv
                  generalize decide (too (makeA W) m = (m : Int)) = o at *
                  generalize hasP (makeA W) m = p at *
                  generalize lev (makeA W) m = x at *
                  generalize too (makeA W) m = y at *
                  have HBc : Hid (Below wT.heap.size wT (wr.alloc (.cells #[.int .i64 p, .int .i64 x, .int .i64 y, .bool o] 58))) := HBr.out.alloc HBr.out.size _
                  have HOc := Lib.hid (World.ownsRow.alloc HO.out (.cells #[.int .i64 p, .int .i64 x, .int .i64 y, .bool o] 58))
                  go_wp2_with (at_builtin; refine wpList_pushN rfl (.tmp 92) (.tmp 98) 32 41 _ 2 16 rfl Try.underlying32 info_alias rfl (by decide) wT.heap.size wT.heap.size u13 m (avs ((makeA W).take m)) [.int .i64 x, .int .i64 y] rfl HOc.out (wr.heap.size + 1) (by simp) rfl rfl (by simp [Value.oneCell']) (by omega) (by decide) HBc.out.size (Nat.le_refl _) HBc.out ?_)
                  intro g3 cap3 w5 ho5 hb5 _ _ _
                  rw [← EA.out] at ho5
                  have HO5 := Lib.hid ho5
                  have HB5 := Lib.hid hb5
                  clear ho5 hb5 HBc HOc EA HO
                  go_wp2
                  go_roundw
                  case rel => exact ⟨m + 1, by omega, by go_num, HO5.out, HB5.out⟩
                  case measure => simp [intOf]; omega
                · obtain rfl : m = W.length := by omega
                  have hml := makeA_len HR.out.nonneg
                  have hO := HO.out
                  rw [List.take_of_length_le (by rw [hml]; exact Nat.le_refl _)] at hO
                  obtain ⟨R, cr, rfl, hA⟩ := ap_of_owns (S := makeA W) (by rw [hml]; exact hO)
                  rw [hml]
                  have HP : Hid (APost w (makeC W) (.returned (.tuple #[.slice R W.length cr, .int .i64 0])) wr) := by
                    show APost _ _ _ _
                    rw [E.out]
                    exact ⟨R, cr, by rw [hml], hA, HLT.out.bel.trans (HBr.out.mono HLT.out.bel.size)⟩
                  clear hml hO hA HO
                  go_wp2
                  go_ret2
                  exact HP.out
            rcases hi_cases (sumW W) S with ⟨k1, _⟩ | ⟨H, k1, k2, k3⟩
            · have HLT : Hid (L2 w W g cap (makeA W) w4) := by
                show L2 _ _ _ _ _ _
                have h1 := HRUN.out
                rw [runA_stop (by omega)] at h1
                rw [← h1]
                exact HL4.out
              rw [l1, k1]
              clear HL4 HRUN l1 k1 l2 l3 l4
              obtain ⟨wT, hwT⟩ : ∃ wT, wT = w4 := ⟨_, rfl⟩
              subst hwT
              have hvT := HLT.out.pv.var
              go_wp2_with fail
              clear hvT
              go_loopw [13, 88] (fun ov iv wr => ∃ k : Nat, k ≤ W.length ∧ iv = .int .i64 k ∧ wr.ownsRow wT.heap.size 41 2 ov k (avs ((makeA W).take k)) ∧ Below wT.heap.size wT wr) (fun _ iv _ => W.length - (intOf iv).toNat)
              case atStart => exact ⟨0, by omega, rfl, World.ownsRow_nil _ _ _ _, Below.refl _ _⟩
              case round =>
                obtain ⟨m, hm, rfl, hO, hB⟩ := hrel
                have HO := Lib.hid hO
                have HBr := Lib.hid hB
                clear hO hB
                by_cases hmt : m < W.length
                · obtain ⟨c0, c1, c2, c3⟩ := (HLT.out.pv.later HBr.out).at_ m hmt
                  have elv : lvP (sumW W) (makeA W) m = lev (makeA W) m := by
                    unfold lvP
                    split
                    · rename_i e; exact (makeA_open HR.out.nonneg m hmt e).symm
                    · rfl
                  rw [elv] at c1
                  have EA : Hid (avs ((makeA W).take (m + 1)) = avs ((makeA W).take m) ++ [.int .i64 (lev (makeA W) m), .int .i64 (too (makeA W) m)]) := by
                    show _ = _
                    rw [take_at (by rw [makeA_len HR.out.nonneg]; exact hmt), avs_append]
                  clear elv
                  generalize decide (too (makeA W) m = (m : Int)) = o at *
                  generalize hasP (makeA W) m = p at *
                  generalize lev (makeA W) m = x at *
                  generalize too (makeA W) m = y at *
                  have HBc : Hid (Below wT.heap.size wT (wr.alloc (.cells #[.int .i64 p, .int .i64 x, .int .i64 y, .bool o] 58))) := HBr.out.alloc HBr.out.size _
                  have HOc := Lib.hid (World.ownsRow.alloc HO.out (.cells #[.int .i64 p, .int .i64 x, .int .i64 y, .bool o] 58))
                  go_wp2_with (at_builtin; refine wpList_pushN rfl (.tmp 92) (.tmp 98) 32 41 _ 2 16 rfl Try.underlying32 info_alias rfl (by decide) wT.heap.size wT.heap.size u13 m (avs ((makeA W).take m)) [.int .i64 x, .int .i64 y] rfl HOc.out (wr.heap.size + 1) (by simp) rfl rfl (by simp [Value.oneCell']) (by omega) (by decide) HBc.out.size (Nat.le_refl _) HBc.out ?_)
                  intro g3 cap3 w5 ho5 hb5 _ _ _
                  rw [← EA.out] at ho5
                  have HO5 := Lib.hid ho5
                  have HB5 := Lib.hid hb5
                  clear ho5 hb5 HBc HOc EA HO
                  go_wp2
                  go_roundw
                  case rel => exact ⟨m + 1, by omega, by go_num, HO5.out, HB5.out⟩
                  case measure => simp [intOf]; omega
                · obtain rfl : m = W.length := by omega
                  have hml := makeA_len HR.out.nonneg
                  have hO := HO.out
                  rw [List.take_of_length_le (by rw [hml]; exact Nat.le_refl _)] at hO
                  obtain ⟨R, cr, rfl, hA⟩ := ap_of_owns (S := makeA W) (by rw [hml]; exact hO)
                  rw [hml]
                  have HP : Hid (APost w (makeC W) (.returned (.tuple #[.slice R W.length cr, .int .i64 0])) wr) := by
                    show APost _ _ _ _
                    rw [E.out]
                    exact ⟨R, cr, by rw [hml], hA, HLT.out.bel.trans (HBr.out.mono HLT.out.bel.size)⟩
                  clear hml hO hA HO
                  go_wp2
                  go_ret2
                  exact HP.out
            · obtain ⟨hinv, hop, tH, hne⟩ := HL4.out.inv.step l2 k2 l3 l4 k3
              have bL := lev_bound HL4.out.inv HR.out l2
              have bH := lev_bound HL4.out.inv HR.out k2
              have hSl := HL4.out.inv.len
              have hv4 := HL4.out.pv.var
              have hs4 := Bs.cell HL4.out.sum (j := 0) (by simp)
              simp only [List.getElem?_cons_zero] at hs4
              have cL := (HL4.out.pv.at_ L (by omega)).1
              rw [show hasP S L = lev S L from if_pos l3] at cL
              have HRN : Hid (runA (sumW W) (W.length - (k + 1)) (pairA (sumW W) S L H) = makeA W) := by
                have h1 := HRUN.out
                rw [show W.length - k = W.length - (k + 1) + 1 by omega, runA_go (by omega)] at h1
                unfold stepA at h1
                rw [l1, k1, Int.toNat_natCast, Int.toNat_natCast] at h1
                exact h1
              have HL5 : Hid (∀ a, L2 w W g cap S (w4.drewN a)) := fun a => HL4.out.later (below_drewN (Below.refl _ _) a)
              have q1 : IntKind.i64.wrap (sumW W - lev S L) = sumW W - lev S L := IntWalk.i64_in _ (by omega)
              have q2 : IntKind.i64.wrap (lev S H - (sumW W - lev S L)) = lev S H - (sumW W - lev S L) := IntWalk.i64_in _ (by omega)
              have iL : L < W.length := by omega
              have iH : H < W.length := by omega
              have HL3' := Lib.hid l3
              have HTH := Lib.hid tH
              have HNE := Lib.hid hne
              have HINV := Lib.hid hinv
              have HSL := Lib.hid hSl
              rw [l1, k1]
              clear l1 k1 l3 tH hne hinv hop HL4 HRUN l2 k2 hSl
              obtain ⟨x, hx⟩ : ∃ x, lev S L = x := ⟨_, rfl⟩
              obtain ⟨y, hy⟩ : ∃ y, lev S H = y := ⟨_, rfl⟩
              have HX := Lib.hid hx
              have HY := Lib.hid hy
              rw [hx] at cL q1 q2 bL l4
              rw [hy] at q2 bH k3
              clear hx hy
              go_wp2_with fail
              go_quiet (fail)
              obtain ⟨w8, hw8⟩ : ∃ w8, w8 = w4.drewN nq := ⟨_, rfl⟩
              have HL8 := Lib.hid (HL5.out nq)
              rw [← hw8] at HL8 ⊢
              clear hw8 HL5 hv4 hs4 cL
              have hv8 := HL8.out.pv.var
              obtain ⟨c0, c1, c2, c3⟩ := HL8.out.pv.at_ L iL
              rw [show hasP S L = x by rw [← HX.out]; exact if_pos HL3'.out] at c0
              have f0 := World.ownsRow.frozenAt HL8.out.row (L * 4)
              have f1 := World.ownsRow.frozenAt HL8.out.row (L * 4 + 1)
              have f2 := World.ownsRow.frozenAt HL8.out.row (L * 4 + 2)
              have f3 := World.ownsRow.frozenAt HL8.out.row (L * 4 + 3)
              have HL9 : Hid (Bs 3 (((((w8.setCell ⟨g, L * 4, none⟩ (.int .i64 0)).setCell ⟨g, L * 4 + 1, none⟩ (.int .i64 x)).setCell ⟨g, L * 4 + 2, none⟩ (.int .i64 H)).setCell ⟨g, L * 4 + 3, none⟩ (.bool false)).drew) w.heap.size [.int .i64 (sumW W)] ∧ Bs 56 (((((w8.setCell ⟨g, L * 4, none⟩ (.int .i64 0)).setCell ⟨g, L * 4 + 1, none⟩ (.int .i64 x)).setCell ⟨g, L * 4 + 2, none⟩ (.int .i64 H)).setCell ⟨g, L * 4 + 3, none⟩ (.bool false)).drew) (w.heap.size + 1) [.slice (some ⟨g, 0, none⟩) W.length cap] ∧ (((((w8.setCell ⟨g, L * 4, none⟩ (.int .i64 0)).setCell ⟨g, L * 4 + 1, none⟩ (.int .i64 x)).setCell ⟨g, L * 4 + 2, none⟩ (.int .i64 H)).setCell ⟨g, L * 4 + 3, none⟩ (.bool false)).drew).ownsRow (w.heap.size + 2) 58 4 (.slice (some ⟨g, 0, none⟩) W.length cap) W.length (pvs (sumW W) 0 (S.set L (x, (H : Int)))) ∧ Below w.heap.size w (((((w8.setCell ⟨g, L * 4, none⟩ (.int .i64 0)).setCell ⟨g, L * 4 + 1, none⟩ (.int .i64 x)).setCell ⟨g, L * 4 + 2, none⟩ (.int .i64 H)).setCell ⟨g, L * 4 + 3, none⟩ (.bool false)).drew)) := by
                have hg := HL8.out.g2
                have h0 := HL8.out.sum
                have h1 := HL8.out.var
                have h2 := HL8.out.row
                have h3 := HL8.out.bel
                have e0 : ∀ j : Nat, w.heap.size ≠ (⟨g, j, none⟩ : Addr).block := fun j => by show w.heap.size ≠ g; omega
                have e1 : ∀ j : Nat, w.heap.size + 1 ≠ (⟨g, j, none⟩ : Addr).block := fun j => by show w.heap.size + 1 ≠ g; omega
                have e2 : ∀ j : Nat, w.heap.size ≤ (⟨g, j, none⟩ : Addr).block := fun j => by show w.heap.size ≤ g; omega
                refine ⟨(((h0.other (e0 _) _).other (e0 _) _).other (e0 _) _).other (e0 _) _, (((h1.other (e1 _) _).other (e1 _) _).other (e1 _) _).other (e1 _) _, ?_, ((((h3.setCell (e2 _) _).setCell (e2 _) _).setCell (e2 _) _).setCell (e2 _) _).drew⟩
                have hn0 : ¬ (H : Int) = (L : Int) := fun e => HNE.out (by omega)
                have := pvs_set (sumW W) S 0 L (x, (H : Int)) (by rw [HSL.out]; exact iL)
                rw [Nat.zero_add] at this
                simp only [if_neg hn0, decide_eq_false hn0] at this
                rw [this]
                exact ownsRow_set (ownsRow_set (ownsRow_set (ownsRow_set h2 _ _) _ _) _ _) _ _
              go_wp2_with fail
              go_still_tail 10, (by kernel_rfl)
              first
                | change wpList _ _ _ _ _ w8.drew
                | still_step
              go_upto_region 18 with (fail)
              generalize (((((w8.setCell ⟨g, L * 4, none⟩ (.int .i64 0)).setCell ⟨g, L * 4 + 1, none⟩ (.int .i64 x)).setCell ⟨g, L * 4 + 2, none⟩ (.int .i64 H)).setCell ⟨g, L * 4 + 3, none⟩ (.bool false)).drew) = w9 at *
              have hpv9 := pv_of HL9.out.2.2.1 (by rw [List.length_set]; exact HSL.out) (Bs.cell HL9.out.2.1 (j := 0) (by simp)) (Bs.lt HL9.out.2.1)
              have es : lev (S.set L (x, (H : Int))) H = y ∧ too (S.set L (x, (H : Int))) H = H := by
                unfold lev too
                rw [getD_set_other HNE.out]
                exact ⟨HY.out, HTH.out⟩
              have hv9 := hpv9.var
              have cH := (hpv9.at_ H iH).1
              rw [show hasP (S.set L (x, (H : Int))) H = y by unfold hasP; rw [if_pos es.2]; exact es.1] at cH
              have fH := World.ownsRow.frozenAt HL9.out.2.2.1 (H * 4)
              have HL10 : Hid (L2 w W g cap (pairA (sumW W) S L H) (w9.setCell ⟨g, H * 4, none⟩ (.int .i64 (y - (sumW W - x))))) := by
                have hg := (World.ownsRow.lt HL9.out.2.2.1 g rfl).1
                refine ⟨HINV.out, HL9.out.1.other (a := ⟨g, H * 4, none⟩) (by show w.heap.size ≠ g; omega) _, HL9.out.2.1.other (a := ⟨g, H * 4, none⟩) (by show w.heap.size + 1 ≠ g; omega) _, ?_, HL9.out.2.2.2.setCell (p := ⟨g, H * 4, none⟩) (by show w.heap.size ≤ g; omega) _⟩
                have e : pairA (sumW W) S L H = (S.set L (x, (H : Int))).set H (y - (sumW W - x), too (S.set L (x, (H : Int))) H) := by
                  unfold pairA
                  rw [HX.out, HY.out, es.2, HTH.out]
                rw [e, pvs_amt (sumW W) (S.set L (x, (H : Int))) H _ (by rw [List.length_set, HSL.out]; exact iH) es.2]
                exact ownsRow_set HL9.out.2.2.1 _ _
              clear hpv9 es HL9 hv8 c0 c1 c2 c3 f0 f1 f2 f3 HL8
              go_wp2
              go_roundw
              case rel => exact ⟨k + 1, pairA (sumW W) S L H, by omega, by go_num, HL10.out, HRN.out⟩
              case measure => simp [intOf]; omega
          · obtain rfl : k = W.length := by omega
            have HLT : Hid (L2 w W g cap (makeA W) wr) := by
              show L2 _ _ _ _ _ _
              have h1 := HRUN.out
              rw [Nat.sub_self] at h1
              rw [← h1]
              exact hL
            clear HRUN hL HL hv
            obtain ⟨wT, hwT⟩ : ∃ wT, wT = wr := ⟨_, rfl⟩
            subst hwT
            have hvT := HLT.out.pv.var
            go_wp2_with fail
            clear hvT
            go_loopw [13, 88] (fun ov iv wr => ∃ k : Nat, k ≤ W.length ∧ iv = .int .i64 k ∧ wr.ownsRow wT.heap.size 41 2 ov k (avs ((makeA W).take k)) ∧ Below wT.heap.size wT wr) (fun _ iv _ => W.length - (intOf iv).toNat)
            case atStart => exact ⟨0, by omega, rfl, World.ownsRow_nil _ _ _ _, Below.refl _ _⟩
            case round =>
              obtain ⟨m, hm, rfl, hO, hB⟩ := hrel
              have HO := Lib.hid hO
              have HBr := Lib.hid hB
              clear hO hB
              by_cases hmt : m < W.length
              · obtain ⟨c0, c1, c2, c3⟩ := (HLT.out.pv.later HBr.out).at_ m hmt
                have elv : lvP (sumW W) (makeA W) m = lev (makeA W) m := by
                  unfold lvP
                  split
                  · rename_i e; exact (makeA_open HR.out.nonneg m hmt e).symm
                  · rfl
                rw [elv] at c1
                have EA : Hid (avs ((makeA W).take (m + 1)) = avs ((makeA W).take m) ++ [.int .i64 (lev (makeA W) m), .int .i64 (too (makeA W) m)]) := by
                  show _ = _
                  rw [take_at (by rw [makeA_len HR.out.nonneg]; exact hmt), avs_append]
                clear elv
                generalize decide (too (makeA W) m = (m : Int)) = o at *
                generalize hasP (makeA W) m = p at *
                generalize lev (makeA W) m = x at *
                generalize too (makeA W) m = y at *
                have HBc : Hid (Below wT.heap.size wT (wr.alloc (.cells #[.int .i64 p, .int .i64 x, .int .i64 y, .bool o] 58))) := HBr.out.alloc HBr.out.size _
                have HOc := Lib.hid (World.ownsRow.alloc HO.out (.cells #[.int .i64 p, .int .i64 x, .int .i64 y, .bool o] 58))
                go_wp2_with (at_builtin; refine wpList_pushN rfl (.tmp 92) (.tmp 98) 32 41 _ 2 16 rfl Try.underlying32 info_alias rfl (by decide) wT.heap.size wT.heap.size u13 m (avs ((makeA W).take m)) [.int .i64 x, .int .i64 y] rfl HOc.out (wr.heap.size + 1) (by simp) rfl rfl (by simp [Value.oneCell']) (by omega) (by decide) HBc.out.size (Nat.le_refl _) HBc.out ?_)
                intro g3 cap3 w5 ho5 hb5 _ _ _
                rw [← EA.out] at ho5
                have HO5 := Lib.hid ho5
                have HB5 := Lib.hid hb5
                clear ho5 hb5 HBc HOc EA HO
                go_wp2
                go_roundw
                case rel => exact ⟨m + 1, by omega, by go_num, HO5.out, HB5.out⟩
                case measure => simp [intOf]; omega
              · obtain rfl : m = W.length := by omega
                have hml := makeA_len HR.out.nonneg
                have hO := HO.out
                rw [List.take_of_length_le (by rw [hml]; exact Nat.le_refl _)] at hO
                obtain ⟨R, cr, rfl, hA⟩ := ap_of_owns (S := makeA W) (by rw [hml]; exact hO)
                rw [hml]
                have HP : Hid (APost w (makeC W) (.returned (.tuple #[.slice R W.length cr, .int .i64 0])) wr) := by
                  show APost _ _ _ _
                  rw [E.out]
                  exact ⟨R, cr, by rw [hml], hA, HLT.out.bel.trans (HBr.out.mono HLT.out.bel.size)⟩
                clear hml hO hA HO
                go_wp2
                go_ret2
                exact HP.out
  all_goals
    have E : Hid (makeC W = ([], (sumC W).2)) := by show _ = _; unfold makeC; rw [if_neg (by rw [h]; decide)]
    have HP := Lib.hid (apost_none (e := 2) ((Below.refl w.heap.size w).alloc (Nat.le_refl _) (.cells #[.int .i64 0] 3)))
    have HP3 := Lib.hid (apost_none (e := 3) ((Below.refl w.heap.size w).alloc (Nat.le_refl _) (.cells #[.int .i64 0] 3)))
    rw [h] at CS E
    clear h hW
    go_enter Try.func16, Try.ntmps16
    go_wp2_with fail
    refine CS.out.mono ?_
    rintro e w0 ⟨rfl, rfl⟩
    clear CS
    go_wp2
    go_ret2
    rw [E.out]
    first
      | exact HP.out
      | exact HP3.out
end Go.Proofs.Ytjhcbjpbmbjgoaa
