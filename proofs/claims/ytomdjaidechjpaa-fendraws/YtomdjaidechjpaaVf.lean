/- lotdrawerlaw.FenDraws: the walk. -/
import Derived.Test.YtomdjaidechjpaaV3
import Derived.Test.YtomdjaidechjpaaV6
import Derived.Test.YtomdjaidechjpaaV8
import Derived.Test.YtomdjaidechjpaaT5
namespace Go.Proofs.Ytomdjaidechjpaa
open Go.RowKit Go.Deep

/-- The first k+1 sums. -/
def wantT (W : List Int) (k : Nat) : List Int := (List.range (k + 1)).map (pre W)
theorem wantT_len (W : List Int) (k : Nat) : (wantT W k).length = k + 1 := by simp [wantT]
theorem wantT_zero (W : List Int) : wantT W 0 = [0] := rfl
theorem wantT_at (W : List Int) (k : Nat) : (wantT W k).getD k 0 = pre W k := by
  simp [wantT, List.getD_eq_getElem?_getD]
theorem wantT_succ (W : List Int) (k : Nat) : wantT W k ++ [pre W (k + 1)] = wantT W (k + 1) := by
  unfold wantT
  rw [List.range_succ (n := k + 1), List.map_append]
  rfl
theorem oi_one (w : World) (x : Int) : OI (w.alloc (.cells #[.int .i64 x] 3)) w.heap.size (.slice (some ⟨w.heap.size, 0, none⟩) 1 1) [x] :=
  ⟨rfl, .inr ⟨w.heap.size, 1, #[.int .i64 x], rfl, Nat.le_refl _, heap_alloc_new w _, Nat.le_refl _, by decide, rfl, rfl⟩⟩

set_option maxRecDepth 100000 in
set_option maxHeartbeats 4000000 in
theorem fenDraws_walk (A : Option Addr) (ca : Nat) (W : List Int) (n : Int) (A2 : Option Addr) (c2 : Nat) (N : List Int) (w : World) (hW : IP w A ca W) (hN : IP w A2 c2 N) (hn : N.length < 17592186044416) (hb : ∀ j, j < N.length → N.getD j 0 ≤ 9223372036854775807) (hnn : n ≤ 9223372036854775807) :
    Calls Try.prog 3 #[.slice A W.length ca, .int .i64 n, .slice A2 N.length c2] w fun e w' => e = .returned (.bool true) ∧ Below w.heap.size w w' := by
  have hle := hW.le
  have hcap := hW.cap
  have hle2 := hN.le
  have hcap2 := hN.cap
  have C1 := Lib.hid (sumsC_any A ca W w hW)
  have C2 : Hid (∀ w' : World, Below w.heap.size w w' → Calls Try.prog 9 #[.slice A W.length ca, .int .i64 n] w' fun e w'' => e = .returned (ptup (pickC W n)) ∧ w' = w'') := fun w' h => pickC_any A ca W n w' (hW.later h) hnn
  have C3 : Hid (∀ w' : World, Below w.heap.size w w' → Calls Try.prog 10 #[.slice A W.length ca, .int .i64 n] w' fun e w'' => e = .returned (ptup (pickC W n)) ∧ w' = w'') := fun w' h => ipick_any A ca W n w' (hW.later h) hnn
  have C4 : Hid (∀ w' : World, Below w.heap.size w w' → Calls Try.prog 11 #[.slice A W.length ca, .slice A2 N.length c2] w' (LPost w' (drawC W N))) := fun w' h => drawC_any A A2 ca c2 W N w' (hW.later h) (hN.later h) hn hb
  have C5 : Hid (∀ w' : World, Below w.heap.size w w' → Calls Try.prog 12 #[.slice A W.length ca, .slice A2 N.length c2] w' (LPost w' (drawC W N))) := fun w' h => idrawC_any A A2 ca c2 W N w' (hW.later h) (hN.later h) hn hb
  have C7 : Hid (∀ w' : World, Below w.heap.size w w' → Calls Try.prog 14 #[.slice A W.length ca] w' fun e w'' => e = .returned (.bool (!wfB W)) ∧ w' = w'') := fun w' h => iwrong_any A ca W w' (hW.later h)
  obtain ⟨⟨x1, x2⟩, hx⟩ : ∃ x, pickC W n = x := ⟨_, rfl⟩
  obtain ⟨⟨D, f⟩, hD⟩ : ∃ q, drawC W N = q := ⟨_, rfl⟩
  rw [hx] at C2 C3
  rw [hD] at C4 C5
  unfold ptup at C2 C3
  have n1 : (x1 != x1) = false := ineq_no rfl
  have n2 : (x2 != x2) = false := ineq_no rfl
  have n3 : (f != f) = false := ineq_no rfl
  have hs : (WF W ∧ sumsC W = (sumsL W, 0)) ∨ (¬ WF W ∧ sumsC W = ([], 2)) := by
    rcases Classical.em (WF W) with h | h
    · exact .inl ⟨h, sumsC_ok h⟩
    · exact .inr ⟨h, sumsC_no h⟩
  have HW := Lib.hid hW
  clear hx hD hW hN hb
  rcases hs with ⟨hF, hs⟩ | ⟨hF, hs⟩
  · rw [hs] at C1
    rw [wfB_ok hF] at C7
    have HF := Lib.hid hF
    have h4 := hF.1
    clear hs hF
    go_enter Try.func3, Try.ntmps3
    go_wp2_with fail
    refine C1.out.mono ?_
    rintro e w1 ⟨R1, c1, rfl, hS, hb1⟩
    unfold ltup
    have HS1 := Lib.hid hS
    have HB1 := Lib.hid hb1
    have C2 := Lib.hid (C2.out w1 hb1)
    have C3 := Lib.hid (C3.out w1 hb1)
    have C4 := Lib.hid (C4.out w1 hb1)
    clear hS hb1 C1
    go_wp2_with fail
    refine C2.out.mono ?_
    rintro e w2 ⟨rfl, rfl⟩
    clear C2
    go_wp2_with fail
    refine C3.out.mono ?_
    rintro e w2 ⟨rfl, rfl⟩
    clear C3
    go_wp2_with fail
    refine C4.out.mono ?_
    rintro e w2 ⟨R2, c2', rfl, hD2, hb2⟩
    unfold ltup
    have HD2 := Lib.hid hD2
    have HS2 := Lib.hid (HS1.out.later hb2)
    have HB2 := Lib.hid (HB1.out.trans (hb2.mono HB1.out.size))
    have C5 := Lib.hid (C5.out w2 HB2.out)
    clear hD2 hb2 C4 HS1 HB1
    go_wp2_with fail
    refine C5.out.mono ?_
    rintro e w3 ⟨R3, c3, rfl, hD3, hb3⟩
    unfold ltup
    have hdl : D.length ≤ c3 := hD3.le
    have hdc : c3 ≤ 9223372036854775807 := hD3.cap
    have C6 := Lib.hid (iequal_any R2 R3 c2' c3 D D w3 (HD2.out.later hb3).il hD3.il (by omega) (by omega))
    simp only [decide_true] at C6
    have HS3 := Lib.hid (HS2.out.later hb3)
    have HB3 := Lib.hid (HB2.out.trans (hb3.mono HB2.out.size))
    clear hD3 hb3 C5 HS2 HB2 HD2
    go_wp2_with fail
    refine C6.out.mono ?_
    rintro e w4 ⟨rfl, hb4⟩
    have HS4 := Lib.hid (HS3.out.later hb4)
    have HB4 := Lib.hid (HB3.out.trans (hb4.mono HB3.out.size))
    have C7 := Lib.hid (C7.out w4 HB4.out)
    clear hb4 C6 HS3 HB3
    go_wp2_with fail
    refine C7.out.mono ?_
    rintro e w5 ⟨rfl, rfl⟩
    clear C7 n1 n2 n3
    have HO : Hid (OI (w4.alloc (.cells #[.int .i64 0] 3)) w4.heap.size (.slice (some ⟨w4.heap.size, 0, none⟩) 1 1) (wantT W 0)) := by
      show OI _ _ _ _
      rw [wantT_zero]; exact oi_one w4 0
    have HBa : Hid (Below w4.heap.size w4 (w4.alloc (.cells #[.int .i64 0] 3))) := (Below.refl _ _).alloc (Nat.le_refl _) _
    go_wp2_with fail
    go_loopw [17, 80] (fun ov iv wr => ∃ k : Nat, k ≤ W.length ∧ iv = .int .i64 k ∧ OI wr w4.heap.size ov (wantT W k) ∧ Below w4.heap.size w4 wr) (fun _ iv _ => W.length - (intOf iv).toNat)
    case atStart => exact ⟨0, by omega, rfl, HO.out, HBa.out⟩
    case round =>
      clear HO HBa
      obtain ⟨k, hk, rfl, hO, hB⟩ := hrel
      obtain ⟨g, cap, rfl, hg0, hg1, hg2, hg3, hg4, hg5, hO2⟩ := hO.form (wantT_len W k) (by omega)
      have HO := Lib.hid hO2
      have HB := Lib.hid hB
      by_cases hlt : k < W.length
      · obtain ⟨b, off, rfl, hbl, hcell⟩ := ((HW.out.later HB4.out).later HB.out).il.at (by omega)
        have hci := hcell k hlt
        have hck := hg4 k (by omega)
        rw [wantT_at] at hck
        have hx := HF.out.at k
        have hp := pre_bound HF.out hk
        have HT := Lib.hid (wantT_succ W k)
        rw [pre_succ hlt] at HT
        have hsz : w4.heap.size ≤ wr.heap.size := HB.out.size
        have HL : (wantT W k).length = k + 1 := wantT_len W k
        have HLb : (wantT W k).length < 17592186044416 := by omega
        have HLH := Lib.hid HL
        clear hcell hg4 hg5 hO hO2 hB hg0 hg1 hg2 hg3 HL
        generalize W.getD k 0 = x at *
        generalize pre W k = p at *
        go_wp2_with (at_builtin; refine wpList_push rfl _ _ rfl w4.heap.size (.slice (some ⟨g, 0, none⟩) (k + 1) cap) (wantT W k) (p + x) rfl HO.out rfl HLb hsz (Below.refl _ _) ?_)
        intro g2 cap2 w3 hO3 hB3 _
        have HO3 := Lib.hid hO3
        rw [HT.out] at HO3
        have HB3 := Lib.hid (HB.out.trans hB3)
        clear hO3 hB3 HO
        go_wp2
        go_roundw
        case rel => exact ⟨k + 1, by omega, by go_num, HO3.out, HB3.out⟩
        case measure => simp [intOf]; omega
      · obtain rfl : k = W.length := by omega
        have hI := HO.out.ipv (wantT_len W W.length)
        have hl1 := sumsL_len W
        have C8 := Lib.hid (iequal_any R1 (some ⟨g, 0, none⟩) c1 cap (sumsL W) (wantT W W.length) wr (HS4.out.later HB.out).il hI.il (by omega) (by rw [wantT_len]; omega))
        rw [wantT_len, hl1] at C8
        rw [show decide (sumsL W = wantT W W.length) = true from decide_eq_true rfl] at C8
        have HBE := Lib.hid (HB4.out.trans (HB.out.mono HB4.out.size))
        have HL1 := Lib.hid hl1
        clear hg4 hg5 hO hO2 hB hg0 hg1 hg2 hg3 hI hl1 HO HB
        go_wp2_with (rw [HL1.out])
        refine C8.out.mono ?_
        rintro e w6 ⟨rfl, hb6⟩
        have HB6 := Lib.hid (HBE.out.trans (hb6.mono HBE.out.size))
        clear hb6 C8 HBE
        go_wp2
        go_ret
        exact ⟨rfl, HB6.out⟩
  · rw [hs] at C1
    rw [wfB_no hF] at C7
    clear hs hF
    go_enter Try.func3, Try.ntmps3
    go_wp2_with fail
    refine C1.out.mono ?_
    rintro e w1 ⟨R1, c1, rfl, hS, hb1⟩
    unfold ltup
    have HS1 := Lib.hid hS
    have HB1 := Lib.hid hb1
    have C2 := Lib.hid (C2.out w1 hb1)
    have C3 := Lib.hid (C3.out w1 hb1)
    have C4 := Lib.hid (C4.out w1 hb1)
    clear hS hb1 C1
    go_wp2_with fail
    refine C2.out.mono ?_
    rintro e w2 ⟨rfl, rfl⟩
    clear C2
    go_wp2_with fail
    refine C3.out.mono ?_
    rintro e w2 ⟨rfl, rfl⟩
    clear C3
    go_wp2_with fail
    refine C4.out.mono ?_
    rintro e w2 ⟨R2, c2', rfl, hD2, hb2⟩
    unfold ltup
    have HD2 := Lib.hid hD2
    have HS2 := Lib.hid (HS1.out.later hb2)
    have HB2 := Lib.hid (HB1.out.trans (hb2.mono HB1.out.size))
    have C5 := Lib.hid (C5.out w2 HB2.out)
    clear hD2 hb2 C4 HS1 HB1
    go_wp2_with fail
    refine C5.out.mono ?_
    rintro e w3 ⟨R3, c3, rfl, hD3, hb3⟩
    unfold ltup
    have hdl : D.length ≤ c3 := hD3.le
    have hdc : c3 ≤ 9223372036854775807 := hD3.cap
    have C6 := Lib.hid (iequal_any R2 R3 c2' c3 D D w3 (HD2.out.later hb3).il hD3.il (by omega) (by omega))
    simp only [decide_true] at C6
    have HS3 := Lib.hid (HS2.out.later hb3)
    have HB3 := Lib.hid (HB2.out.trans (hb3.mono HB2.out.size))
    clear hD3 hb3 C5 HS2 HB2 HD2
    go_wp2_with fail
    refine C6.out.mono ?_
    rintro e w4 ⟨rfl, hb4⟩
    have HS4 := Lib.hid (HS3.out.later hb4)
    have HB4 := Lib.hid (HB3.out.trans (hb4.mono HB3.out.size))
    have C7 := Lib.hid (C7.out w4 HB4.out)
    clear hb4 C6 HS3 HB3
    go_wp2_with fail
    refine C7.out.mono ?_
    rintro e w5 ⟨rfl, rfl⟩
    clear C7 n1 n2 n3
    go_wp2
    go_ret
    exact ⟨rfl, HB4.out⟩
end Go.Proofs.Ytomdjaidechjpaa
