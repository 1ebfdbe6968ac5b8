/- lotdrawerkeep.CoinSplit: the walk. -/
import Derived.Test.YtkfpomeemcmfmaaMp
namespace Go.Proofs.Ytkfpomeemcmfmaa
open Go.RowKit Go.Deep

set_option maxRecDepth 100000 in
set_option maxHeartbeats 4000000 in
theorem coinSplit_good (B : Option Addr) (cb : Nat) (l : List Int) (n : Nat) (w : World) (hl : IP w B cb l) (hn : n ≤ 10) (h6 : l.length ≤ 6) :
    Calls Try.prog 7 #[.slice B l.length cb, .int .i64 n] w fun e w' => e = .returned (.bool true) ∧ Below w.heap.size w w' := by
  have CA := Lib.hid (alive3_any w)
  obtain ⟨q, eq, hq, eq2⟩ := pow_facts10 hn
  have EQ := Lib.hid eq
  have EQ2 := Lib.hid eq2
  clear eq eq2
  have HL := Lib.hid hl
  have hlb := hl.le
  have hcb := hl.cap
  clear hl
  have d1 : decide ((n : Int) < 0) = false := by simp
  have d2 : decide ((10 : Int) < (n : Int)) = false := by simp; omega
  have d3 : decide ((6 : Int) < (l.length : Int)) = false := decide_eq_false (by omega)
  have d4 : decide (6 < l.length) = false := decide_eq_false (by omega)
  go_enter Try.func7, Try.ntmps7
  go_wp2_with fail
  refine CA.out.mono ?_
  rintro e w1 ⟨rfl, hB1⟩
  have HB1 := Lib.hid hB1
  have HL1 := Lib.hid (HL.out.later hB1)
  clear hB1 CA HL
  go_wp2_with fail
  clear d1 d2 d3 d4
  go_loop [5, 31] (fun sv iv => ∃ ws : List Nat, ws.length ≤ l.length ∧ l.take ws.length = nis ws ∧ ws.sum ≤ ws.length * 1048576 ∧ sv = .int .i64 (ws.sum : Nat) ∧ iv = .int .i64 (ws.length : Nat)) (fun _ iv => l.length - (intOf iv).toNat)
  case atStart => exact ⟨[], by simp, rfl, by simp, rfl, rfl⟩
  case round =>
    obtain ⟨ws, hw1, hw2, hw3, rfl, rfl⟩ := hrel
    have HW := Lib.hid hw2
    clear hw2
    by_cases hlt : ws.length < l.length
    · obtain ⟨b, off, rfl, _, hc⟩ := HL1.out.il.at (by omega)
      have ck := hc ws.length hlt
      clear hc
      have hx : Hid (l.take (ws.length + 1) = nis ws ++ [l.getD ws.length 0]) := by
        show l.take (ws.length + 1) = _
        rw [List.take_succ_eq_append_getElem hlt, HW.out]; simp [List.getD_eq_getElem?_getD, hlt]
      generalize l.getD ws.length 0 = x at *
      by_cases x1 : x < 0
      · clear hx
        go_wp2
        go_ret
        exact ⟨rfl, HB1.out⟩
      · by_cases x2 : 1048576 < x
        · clear hx
          go_wp2
          go_ret
          exact ⟨rfl, HB1.out⟩
        · obtain ⟨y, rfl⟩ : ∃ y : Nat, x = y := ⟨x.toNat, by omega⟩
          have W2 : Hid (l.take (ws ++ [y]).length = nis (ws ++ [y])) := by
            show l.take (ws ++ [y]).length = nis (ws ++ [y])
            rw [List.length_append, nis_append]; exact hx.out
          have e1 : Hid ((ws ++ [y]).sum = ws.sum + y ∧ (ws ++ [y]).length = ws.length + 1) := ⟨by simp, by simp⟩
          clear hx HW
          generalize hs : ws.sum = s at *
          generalize hk : ws.length = k at *
          go_wp2
          go_round
          case rel =>
            refine ⟨ws ++ [y], ?_, W2.out, ?_, ?_, ?_⟩
            · rw [e1.out.2]; omega
            · rw [e1.out.1, e1.out.2]; omega
            · rw [e1.out.1]; go_num
            · rw [e1.out.2]; go_num
          case measure => simp [intOf]; omega
    · obtain hk : ws.length = l.length := by omega
      have hle : l = nis ws := by have := HW.out; rwa [hk, List.take_length] at this
      clear HW hlt hw1
      subst hle
      rw [nis_len] at *
      by_cases h0 : ws.sum = 0
      · have h0' : ((ws.sum : Nat) : Int) = 0 := by omega
        generalize ws.sum = s at *
        subst h0
        go_wp2
        go_ret
        exact ⟨rfl, HB1.out⟩
      · have hpos : 0 < ws.sum := by omega
        have hsm : ws.sum ≤ 6291456 := by omega
        have hs0 : (((ws.sum : Nat) : Int) == 0) = false := eqz_no h0
        have hmk := run_make_row' (P := Try.prog) 25 3 (.int .i64 0) 8 Try.underlying25 info_int rfl .i64 .i64 ws.length (by omega) (by omega)
        have OF := Lib.hid (off_nis hpos (by omega))
        have hTB := Lib.hid (TB.made w1 ws.length)
        have hBm : Hid (Below w1.heap.size w1 (w1.alloc (.cells (madeCells #[.int .i64 0] ws.length) 3))) := (Below.refl _ _).alloc (Nat.le_refl _) _
        have JU : Hid (∀ cs E, SRel ws n (2 ^ n) cs E → ∀ k, k < ws.length → cs.getD k 0 * ws.sum ≤ ws.getD k 0 * 2 ^ n ∧ ws.getD k 0 * 2 ^ n ≤ (cs.getD k 0 + E) * ws.sum) := fun cs E h k hk => srel_just h hpos hk
        have GL : Hid (∀ k, ws.getD k 0 ≤ ws.sum) := getD_le_sum ws
        have eq2 := EQ2.out
        generalize hsum : ws.sum = s at *
        have HSUM := Lib.hid hsum
        clear hsum hw3
        go_wp2_with fail
        clear hmk eq2
        go_loopw [9, 52] (fun ev xv wr => ∃ (x E : Nat) (cs : List Nat), x ≤ q ∧ ev = .int .i64 E ∧ xv = .int .i64 x ∧ SRel ws n x cs E ∧ TB wr w1.heap.size cs ∧ Below w1.heap.size w1 wr) (fun _ xv _ => q - (intOf xv).toNat)
        case atStart => exact ⟨0, 0, _, by omega, rfl, rfl, srel_start ws n, hTB.out, hBm.out⟩
        case round =>
          clear hTB hBm
          obtain ⟨x, E, cs, hx, rfl, rfl, hR, hT, hB⟩ := hrel
          have HR := Lib.hid hR
          have HT := Lib.hid hT
          have HB := Lib.hid hB
          have hE := hR.2.2.2.2
          have hcl := hR.1
          clear hR hT hB
          by_cases hx2 : x < q
          · have CB := Lib.hid (bits_any x n wr (by omega) (by omega))
            go_wp2_with fail
            refine CB.out.mono ?_
            rintro e w2 ⟨rfl, hbs, hb2⟩
            have hIP := HL1.out.later (HB.out.trans (hb2.mono HB.out.size))
            have CO := Lib.hid (of_any _ B _ cb _ (nis ws) _ (bits_tp (by omega) hbs) hIP)
            rw [bitsOf_len, nis_len, OF.out] at CO
            unfold tup at CO
            have HB2 := Lib.hid hb2
            clear hbs hb2 CB hIP
            have HG : Hid (∀ w3, Below w2.heap.size w2 w3 → Below w1.heap.size w1 w3 ∧ TB w3 w1.heap.size cs) := fun w3 hb => by
              have h3 : Below wr.heap.size wr w3 := HB2.out.trans (hb.mono HB2.out.size)
              exact ⟨HB.out.trans (h3.mono HB.out.size), HT.out.below h3 HT.out.lt⟩
            cases ho : ofF ws s (bitsOf x n) with
            | none =>
              have HS := Lib.hid (srel_end HR.out (by rw [HSUM.out]; exact ho))
              rw [ho] at CO
              unfold tans at CO
              clear ho HR
              go_wp2_with fail
              refine CO.out.mono ?_
              rintro e w3 ⟨rfl, hb3⟩
              have HB3 := Lib.hid (HG.out w3 hb3)
              clear hb3 CO HG HB2 HB HT
              go_wp2
              go_roundw
              case rel => exact ⟨x + 1, E + 1, cs, by omega, by go_num, by go_num, HS.out, HB3.out.2, HB3.out.1⟩
              case measure => simp [intOf]; omega
            | some p =>
              obtain ⟨k, u⟩ := p
              have hk2 := ofF_lt ho
              have HS := Lib.hid (srel_hit HR.out (by rw [HSUM.out]; exact ho))
              have hck := HR.out.2.2.2.1 k hk2
              have e1 : decide ((k : Int) < 0) = false := decide_eq_false (by omega)
              have e2 : decide ((ws.length : Int) ≤ (k : Int)) = false := decide_eq_false (by omega)
              have e3 : decide (ws.length ≤ k) = false := decide_eq_false (by omega)
              rw [ho] at CO
              unfold tans at CO
              clear ho HR
              go_wp2_with fail
              refine CO.out.mono ?_
              rintro e w3 ⟨rfl, hb3⟩
              have hG := HG.out w3 hb3
              obtain ⟨f1, f2⟩ := hG.2.cell (j := k) (by omega)
              have hT2 := hG.2.set k (cs.getD k 0 + 1)
              have hB4 := hG.1.setCell (p := ⟨w1.heap.size, k, none⟩) (Nat.le_refl _) (.int .i64 ((cs.getD k 0 + 1 : Nat) : Int))
              have ec : ((cs.getD k 0 + 1 : Nat) : Int) = ((cs.getD k 0 : Nat) : Int) + 1 := by simp
              rw [ec] at hT2 hB4
              have HT2 := Lib.hid hT2
              have HB4 := Lib.hid hB4
              clear hb3 CO HG HB2 HB HT hG hT2 hB4 ec
              generalize hcd : cs.getD k 0 = c at *
              go_wp2
              go_roundw
              case rel => exact ⟨x + 1, E, cs.set k (c + 1), by omega, by go_num, by go_num, HS.out, HT2.out, HB4.out⟩
              case measure => simp [intOf]; omega
          · obtain rfl : x = q := by omega
            have HJ : Hid (∀ k, k < ws.length → cs.getD k 0 * s ≤ ws.getD k 0 * x ∧ ws.getD k 0 * x ≤ (cs.getD k 0 + E) * s) := fun k hk => by
              have := JU.out cs E (by rw [EQ.out]; exact HR.out) k hk
              rwa [EQ.out] at this
            have HCk := Lib.hid HR.out.2.2.2.1
            clear JU HR EQ OF HSUM
            go_wp2_with fail
            go_loopw [14, 91] (fun _ kv wv => ∃ k : Nat, k ≤ ws.length ∧ kv = .int .i64 k ∧ TB wv w1.heap.size cs ∧ Below w1.heap.size w1 wv) (fun _ kv _ => ws.length - (intOf kv).toNat)
            case atStart => exact ⟨0, by omega, rfl, HT.out, HB.out⟩
            case round =>
              clear HT HB
              obtain ⟨k, hk3, rfl, hT, hB⟩ := hrel
              have HT := Lib.hid hT
              have HB := Lib.hid hB
              by_cases hk4 : k < ws.length
              · obtain ⟨b, off, rfl, _, hcw⟩ := (HL1.out.il.later hB).at (by rw [nis_len]; omega)
                have ew := hcw k (by rw [nis_len]; exact hk4)
                rw [nis_at hk4] at ew
                have et := (hT.cell (j := k) (by omega)).1
                obtain ⟨j1, j2⟩ := HJ.out k hk4
                have g1 := GL.out k
                have g2 := HCk.out k hk4
                clear hcw hT hB
                generalize ws.getD k 0 = W at *
                generalize cs.getD k 0 = c at *
                have b1 : c * s ≤ 1024 * 6291456 := Nat.mul_le_mul (by omega) (by omega)
                have b2 : W * x ≤ 6291456 * 1024 := Nat.mul_le_mul (by omega) (by omega)
                have b3 : (c + E) * s ≤ 2048 * 6291456 := Nat.mul_le_mul (by omega) (by omega)
                have m1 : (c : Int) * (s : Int) = ((c * s : Nat) : Int) := by simp
                have m2 : (W : Int) * (x : Int) = ((W * x : Nat) : Int) := by simp
                have m3 : ((c : Int) + (E : Int)) * (s : Int) = (((c + E) * s : Nat) : Int) := by simp
                have eq2 := EQ2.out
                have HJ2 : Hid (W = 0 → c = 0) := fun h => by
                  subst h
                  rw [Nat.zero_mul] at j1
                  rcases Nat.mul_eq_zero.1 (Nat.le_zero.1 j1) with h | h
                  · exact h
                  · omega
                generalize c * s = P1 at *
                generalize W * x = P2 at *
                generalize (c + E) * s = P3 at *
                have t1 : decide ((P2 : Int) < (P1 : Int)) = false := decide_eq_false (by omega)
                have t2 : decide ((P3 : Int) < (P2 : Int)) = false := decide_eq_false (by omega)
                have t3 : decide (P2 < P1) = false := decide_eq_false (by omega)
                have t4 : decide (P3 < P2) = false := decide_eq_false (by omega)
                have s1 : IntKind.i64.wrap (P1 : Int) = (P1 : Int) := IntWalk.i64_in _ (by omega)
                have s2 : IntKind.i64.wrap (P2 : Int) = (P2 : Int) := IntWalk.i64_in _ (by omega)
                have s3 : IntKind.i64.wrap (P3 : Int) = (P3 : Int) := IntWalk.i64_in _ (by omega)
                have s4 : IntKind.i64.wrap ((c : Int) + (E : Int)) = (c : Int) + (E : Int) := IntWalk.i64_in _ (by omega)
                by_cases hW : W = 0
                · have hc0 := HJ2.out hW
                  have hW1 : ((W : Int) == 0) = true := by rw [beq_iff_eq]; omega
                  have hc1 : decide ((0 : Int) < (c : Int)) = false := decide_eq_false (by omega)
                  have hc2 : decide (0 < c) = false := decide_eq_false (by omega)
                  clear hW hc0 HJ2
                  go_wp2
                  go_quiet (fail)
                  go_wp2
                  go_roundw
                  case rel => exact ⟨k + 1, by omega, by go_num, HT.out.below (below_drewN (Below.refl (w1.heap.size + 1) _) _) (by omega), below_drewN HB.out _⟩
                  case measure => simp [intOf]; omega
                · have hW1 : ((W : Int) == 0) = false := eqz_no hW
                  clear HJ2
                  go_wp2
                  go_quiet (fail)
                  go_wp2
                  go_roundw
                  case rel => exact ⟨k + 1, by omega, by go_num, HT.out.below (below_drewN (Below.refl (w1.heap.size + 1) _) _) (by omega), below_drewN HB.out _⟩
                  case measure => simp [intOf]; omega
              · obtain rfl : k = ws.length := by omega
                have HB6 : Hid (Below w.heap.size w wr) := HB1.out.trans (HB.out.mono HB1.out.size)
                clear hT hB HB HT
                go_wp2
                go_ret
                exact ⟨rfl, HB6.out⟩

set_option maxRecDepth 100000 in
set_option maxHeartbeats 4000000 in
theorem coinSplit_bad (B : Option Addr) (cb : Nat) (l : List Int) (n : Int) (w : World) (h : n < 0 ∨ 10 < n ∨ 6 < l.length) :
    Calls Try.prog 7 #[.slice B l.length cb, .int .i64 n] w fun e w' => e = .returned (.bool true) ∧ Below w.heap.size w w' := by
  have CA := Lib.hid (alive3_any w)
  by_cases k1 : n < 0
  · clear h
    go_enter Try.func7, Try.ntmps7
    go_wp2_with fail
    refine CA.out.mono ?_
    rintro e w1 ⟨rfl, hB1⟩
    have HB1 := Lib.hid hB1
    clear hB1 CA
    go_wp2
    go_ret
    exact ⟨rfl, HB1.out⟩
  · by_cases k2 : 10 < n
    · clear h
      go_enter Try.func7, Try.ntmps7
      go_wp2_with fail
      refine CA.out.mono ?_
      rintro e w1 ⟨rfl, hB1⟩
      have HB1 := Lib.hid hB1
      clear hB1 CA
      go_wp2
      go_ret
      exact ⟨rfl, HB1.out⟩
    · have k3 : 6 < l.length := by omega
      clear h
      go_enter Try.func7, Try.ntmps7
      go_wp2_with fail
      refine CA.out.mono ?_
      rintro e w1 ⟨rfl, hB1⟩
      have HB1 := Lib.hid hB1
      clear hB1 CA
      go_wp2
      go_ret
      exact ⟨rfl, HB1.out⟩

theorem coinSplit_walk (B : Option Addr) (cb : Nat) (l : List Int) (n : Int) (w : World) (hl : IP w B cb l) :
    Calls Try.prog 7 #[.slice B l.length cb, .int .i64 n] w fun e w' => e = .returned (.bool true) ∧ Below w.heap.size w w' := by
  by_cases h : n < 0 ∨ 10 < n ∨ 6 < l.length
  · exact coinSplit_bad B cb l n w h
  · obtain ⟨n, rfl⟩ : ∃ k : Nat, n = k := ⟨n.toNat, by omega⟩
    exact coinSplit_good B cb l n w hl (by omega) (by omega)
end Go.Proofs.Ytkfpomeemcmfmaa
