import Derived.Test.YtcfiigodefkncaaPx
/- lotdrawerref.parts where the divisor is 2 ^ 64: the walk. -/
namespace Go.Proofs.Ytcfiigodefkncaa
open Go.RowKit Go.Deep

theorem wrapU3 {x : Int} (h0 : 0 ≤ x) (h1 : x ≤ 18446744073709551615) : IntKind.u64.wrap x = x := by rw [IntKind.wrap_u64]; omega
set_option maxRecDepth 100000 in
set_option maxHeartbeats 4000000 in
theorem parts3_any (A B : Option Addr) (ca cb : Nat) (xs : List Nat) (w : World) (ha : H.Wd w A xs) (hb : H.Wd w B [0, 0, 1]) (hx : xs.length ≤ 400000) (hx3 : 3 ≤ xs.length) :
    Calls Try.prog 46 #[.slice A xs.length ca, .slice B 3 cb] w fun e w' => Parts (H.val xs) (H.val [0, 0, 1]) w e w' := by
  obtain ⟨b2, o2, rfl, ⟨hl2, cs2, fr2, hcs2⟩, hc2⟩ := hb.2 (by simp)
  obtain ⟨y, hy⟩ : ∃ y, y = 1 := ⟨_, rfl⟩
  have e1 : w.cell? ⟨b2, o2 + 2, none⟩ = some (.int .u32 (y : Int)) := by rw [hy]; exact hc2 2 (by simp)
  have HA := Lib.hid ha
  have HB := Lib.hid hb
  have HY := Lib.hid hy
  clear ha hb hc2 hcs2 hy
  go_enter Try.func46, Try.ntmps46
  go_wp2_with fail
  go_loop [9] (fun t => ∃ s : Nat, t = .int .i64 s ∧ s ≤ 31) (fun t => 32 - (intOf t).toNat)
  case atStart => exact ⟨0, rfl, by omega⟩
  case round =>
    obtain ⟨s, rfl, hs⟩ := hrel
    have hys : y * 2 ^ s < 4294967296 := by
      rw [HY.out, Nat.one_mul]
      have : (2 : Nat) ^ s ≤ 2 ^ 31 := Nat.pow_le_pow_right (by omega) hs
      omega
    have hsh := shl_one3 hys
    obtain ⟨z, hz⟩ : ∃ z, z = y * 2 ^ s := ⟨_, rfl⟩
    rw [← hz] at hsh hys
    by_cases hs2 : s < 31
    · have hz0 : (z : Int) / 2147483648 = 0 := by
        have : (2 : Nat) ^ s ≤ 2 ^ 30 := Nat.pow_le_pow_right (by omega) (by omega)
        rw [HY.out, Nat.one_mul] at hz
        omega
      clear hz
      go_wp2
      go_round
      case rel => exact ⟨s + 1, by go_num, by omega⟩
      case measure => simp [intOf]; omega
    · have HS : Hid (s = 31) := by show s = 31; omega
      have hz1 : (z : Int) / 2147483648 = 1 := by
        rw [HY.out, Nat.one_mul, HS.out] at hz
        omega
      clear hz hs2
      have CY : Hid (∀ w', Below w.heap.size w w' → Calls Try.prog 33 #[.slice (some ⟨b2, o2, none⟩) 3 cb, .int .i64 (s : Int)] w' fun e w2 => Own3 w' (H.val [0, 0, 1]) 4 s e w2) := fun w' h => own3_of (xs := [0, 0, 1]) HB.out (by simp) hs h
      have CX : Hid (∀ w', Below w.heap.size w w' → Calls Try.prog 33 #[.slice A xs.length ca, .int .i64 (s : Int)] w' fun e w2 => Own3 w' (H.val xs) (xs.length + 1) s e w2) := fun w' h => own3_of (xs := xs) HA.out hx hs h
      go_wp2_with fail
      clear hsh hz1
      go_cut [11, 12] (fun s11 s12 wx => Laid3 w (H.val xs) (H.val [0, 0, 1]) xs.length s s11 s12 wx)
      case first =>
        as_aux_lemma =>
          go_region_with (first
            | (go_at_call 33; go_fit (CY.out _ ((Below.refl _ w).drew)); rintro e w1 ⟨vs, rfl, v1, v2, v3, v4, hB1⟩; have V1 := Lib.hid v1; have V2 := Lib.hid v2; have V3 := Lib.hid v3; have V4 := Lib.hid v4; have B1 : Hid (Below w.heap.size w w1) := (Below.refl _ w).drew.trans hB1; clear v1 v2 v3 v4 hB1)
            | (go_at_call 33; go_fit (CX.out _ (B1.out)); rintro e w2 ⟨zs, rfl, z1, z2, z3, z4, hB2⟩; have Z1 := Lib.hid z1; have Z2 := Lib.hid z2; have Z3 := Lib.hid z3; have Z4 := Lib.hid z4; have B2 := Lib.hid hB2; clear z1 z2 z3 z4 hB2))
          all_goals (go_wp2_with fail; go_meet; exact ⟨w.heap.size, w1.heap.size, vs, zs, rfl, rfl, Nat.ne_of_lt V1.out.lt, Nat.le_refl _, B1.out.size, V1.out.below B2.out V1.out.lt, V2.out, V3.out, V4.out, Z1.out, Z2.out, Z3.out, Z4.out, B1.out.trans (B2.out.mono B1.out.size)⟩)
      case rest =>
        obtain ⟨gv, gu, vs, zs, rfl, rfl, hne, hgv, hgu, v1, v2, v3, v4, z1, z2, z3, z4, hB⟩ := hcut
        obtain ⟨wm, rfl⟩ : ∃ wm : World, wm = wc := ⟨_, rfl⟩
        obtain rfl := vs_norm3 v2 v3 (by rw [v4, HS.out]; decide)
        obtain ⟨n, hn⟩ : ∃ n, xs.length = n + 2 := ⟨xs.length - 2, by omega⟩
        rw [hn] at z3 hx hx3
        rw [hn]
        have z4' : H.val zs = H.val xs * 2147483648 := by rw [z4, HS.out]
        have hX : H.val xs < H.Bw ^ (n + 2) := by have := H.val_lt HA.out.1; rw [hn] at this; exact this
        have hmk := run_make_row' (P := Try.prog) 51 63 (.int .u32 0) 4 Try.underlying51 Try.info63 rfl .i64 .i64 (n + 2 + 1) (by omega) (by omega)
        simp only [Int.natCast_add, Int.cast_ofNat_Int] at hmk
        have FS : Hid (F3 zs n zs []) := F3.start z3 z2 (top_lt3 z2 z3 hX z4')
        have QS : Hid (Q3 w gv gu wm.heap.size zs (List.replicate (n + 3) 0) (wm.alloc (.cells (madeCells #[.int .u32 0] (n + 2 + 1)) 63))) := ⟨v1.below ((Below.refl _ _).alloc (Nat.le_refl _) _) v1.lt, z1.below ((Below.refl _ _).alloc (Nat.le_refl _) _) z1.lt, H.Bk.made _ _, hB.alloc hB.size _⟩
        have lv := v1.lt
        have lu := z1.lt
        have Z4 := Lib.hid z4'
        have Z3 := Lib.hid z3
        have hBs := hB.size
        clear v1 v2 v3 v4 z1 z2 z4 z4' hB CX CY e1 HB HA hX z3
        go_wp2_with fail
        go_loopw [14] (fun i wr => ∃ (k : Nat) (us ds : List Nat), k ≤ n ∧ i = .int .i64 ((k : Int) - 1) ∧ F3 zs k us ds ∧ Q3 w gv gu wm.heap.size us (List.replicate k 0 ++ (ds ++ [0, 0, 0])) wr) (fun i _ => (intOf i + 1).toNat)
        case atStart => exact ⟨n, zs, [], Nat.le_refl _, by go_num, FS.out, by
                          have := QS.out
                          rw [← List.replicate_append_replicate] at this
                          exact this⟩
        case round =>
          clear FS QS hmk
          obtain ⟨k, us, ds, hk, rfl, hF, hQ⟩ := hrel
          have HF := Lib.hid hF
          have HQ := Lib.hid hQ
          clear hF hQ
          cases k with
          | zero =>
            rw [show ((0 : Nat) : Int) - 1 = -1 from rfl]
            obtain ⟨o1, o2, o3, o4⟩ := HF.out.done
            have hQ := HQ.out
            rw [List.replicate_zero, List.nil_append] at hQ
            have ul : us.length = n + 2 + 1 := by rw [HF.out.l, Z3.out]
            have ol : (us.take 3).length = 3 := by rw [List.length_take, ul]; omega
            have CR := shiftRight_any (some ⟨gu, 0, none⟩) (n + 2 + 1) s (us.take 3) wr ((hQ.2.1.wd HF.out.su).take 3) (by omega) (by omega) (by omega)
            rw [ol, o2, Z4.out] at CR
            rw [Z4.out] at o1
            have eV : V3 = H.val [0, 0, 1] * 2147483648 := by decide
            have e31 : (2 : Nat) ^ s = 2147483648 := by rw [HS.out]
            rw [eV, e31, show H.val xs * 2147483648 % (H.val [0, 0, 1] * 2147483648) / 2147483648 = H.val xs % H.val [0, 0, 1] from scale_mod (s := 31)] at CR
            rw [eV, show H.val xs * 2147483648 / (H.val [0, 0, 1] * 2147483648) = H.val xs / H.val [0, 0, 1] from scale_div (s := 31)] at o1
            have HCR := Lib.hid CR
            obtain ⟨os, hos⟩ : ∃ os, ds ++ [0, 0, 0] = os := ⟨_, rfl⟩
            rw [hos] at o1 o3 o4 hQ
            have O1 : Hid (os.length = n + 2 + 1) := by show os.length = _; rw [o4, Z3.out]
            have O3 := Lib.hid (hQ.2.2.1.wd o3)
            have O5 := Lib.hid o1
            have O7 := Lib.hid hQ.2.2.2
            clear o1 o2 o3 o4 ol ul CR hQ eV e31 hos
            go_wp2_with fail
            refine HCR.out.mono ?_
            rintro e w9 ⟨R, c, rs, rfl, q1, q2, q3, q4, q5⟩
            have Q1 := Lib.hid q1
            have Q4 := Lib.hid q4
            have Q5 := Lib.hid q5
            clear q1 q4 q5 HCR
            go_wp2
            go_ret2
            exact ⟨some ⟨wm.heap.size, 0, none⟩, R, os, rs, n + 2 + 1, c, by rw [O1.out]; rfl, O3.out.below Q5.out, Q1.out, by rw [O1.out]; exact Nat.le_refl _, q3, by rw [O1.out]; omega, q2, O5.out, Q4.out, O7.out.trans (Q5.out.mono O7.out.size)⟩
          | succ m =>
            rw [show ((m + 1 : Nat) : Int) - 1 = (m : Int) by omega]
            obtain ⟨m1, hm1⟩ : ∃ m1, m1 = m + 1 := ⟨_, rfl⟩
            obtain ⟨m2, hm2⟩ : ∃ m2, m2 = m + 2 := ⟨_, rfl⟩
            obtain ⟨m3, hm3⟩ : ∃ m3, m3 = m + 3 := ⟨_, rfl⟩
            have ul : us.length = n + 2 + 1 := by rw [HF.out.l, Z3.out]
            have p9 := HQ.out.2.1
            have p8 := HQ.out.1
            have cu1 := p9.cell (j := m1) (by omega)
            have cu2 := p9.cell (j := m2) (by omega)
            have cu3 := p9.cell (j := m3) (by omega)
            have cv1 : wr.cell? ⟨gv, 1, none⟩ = some (.int .u32 0) := p8.cell (j := 1) (by simp)
            have cv2 : wr.cell? ⟨gv, 2, none⟩ = some (.int .u32 2147483648) := p8.cell (j := 2) (by simp)
            have bu1 : H.wd us m1 < 4294967296 := H.wd_lt HF.out.su m1
            have bu2 : H.wd us m2 < 4294967296 := H.wd_lt HF.out.su m2
            have bu3 : H.wd us m3 < 2147483648 := by have := HF.out.top; rw [hm3]; exact this
            obtain ⟨x1, hx1⟩ : ∃ x1, x1 = H.wd us m1 := ⟨_, rfl⟩
            obtain ⟨x2, hx2⟩ : ∃ x2, x2 = H.wd us m2 := ⟨_, rfl⟩
            obtain ⟨x3, hx3'⟩ : ∃ x3, x3 = H.wd us m3 := ⟨_, rfl⟩
            rw [← hx1] at cu1 bu1
            rw [← hx2] at cu2 bu2
            rw [← hx3'] at cu3 bu3
            have hor := top64 (r := x3) (x := x2) (by omega) bu2
            obtain ⟨T, hT⟩ : ∃ T, T = x3 * 4294967296 + x2 := ⟨_, rfl⟩
            rw [← hT] at hor
            have hTB : T < 9223372036854775808 := by omega
            obtain ⟨q, hq⟩ : ∃ q, q = T / 2147483648 := ⟨_, rfl⟩
            obtain ⟨r, hr⟩ : ∃ r, r = T % 2147483648 := ⟨_, rfl⟩
            have hqr : q * 2147483648 + r = x3 * 4294967296 + x2 := by omega
            have hrb : r < 2147483648 := by omega
            have hqb : q < 4294967296 := by omega
            have dq : (T : Int) / 2147483648 = (q : Int) := by omega
            have dr : (T : Int) % 2147483648 = (r : Int) := by omega
            have HQR := Lib.hid hqr
            have HX1 := Lib.hid hx1
            have HX2 := Lib.hid hx2
            have HX3 := Lib.hid hx3'
            have HM1 := Lib.hid hm1
            have HM2 := Lib.hid hm2
            have HM3 := Lib.hid hm3
            have wd0 : IntKind.u64.wrap ((x3 : Int) * 4294967296) = (x3 : Int) * 4294967296 := wrapU3 (by omega) (by omega)
            have wdq : IntKind.u64.wrap (q : Int) = (q : Int) := wrapU3 (by omega) (by omega)
            have hm3n : m3 < n + 2 + 1 := by omega
            have hm2n : m2 < n + 2 + 1 := by omega
            have hm1n : m1 < n + 2 + 1 := by omega
            have g3 : IntKind.i64.wrap (m3 : Int) = (m3 : Int) := by rw [IntKind.wrap_i64]; omega
            have g2 : IntKind.i64.wrap (m2 : Int) = (m2 : Int) := by rw [IntKind.wrap_i64]; omega
            have g1 : IntKind.i64.wrap (m1 : Int) = (m1 : Int) := by rw [IntKind.wrap_i64]; omega
            have s3 : (m : Int) + 3 = (m3 : Int) := by omega
            have s2 : (m3 : Int) - 1 = (m2 : Int) := by omega
            have s1 : (m3 : Int) - 2 = (m1 : Int) := by omega
            have s4 : (m : Int) + 1 = (m1 : Int) := by omega
            have s5 : (m : Int) + 2 = (m2 : Int) := by omega
            obtain ⟨wo, hwo⟩ : ∃ wo, wo = wr := ⟨_, rfl⟩
            clear hx1 hx2 hx3' hm1 hm2 hm3 hq hr hqr p8 p9 ul hT
            go_wp2_with fail
            go_quiet (fail)
            have hb5 : Below wr.heap.size wr (wr.drewN nq) := below_drewN (Below.refl _ _) _
            have cv2' : (wr.drewN nq).cell? ⟨gv, 2, none⟩ = some (.int .u32 2147483648) := cv2
            generalize wr.drewN nq = w5 at *
            clear cu2 cu3 hor wd0
            go_wp2_with fail
            go_quiet (fail)
            have hbq : Below wr.heap.size wr (w5.drewN nq) := below_drewN hb5 _
            generalize w5.drewN nq = wq at *
            clear hb5 cv2' cv2
            go_wp2_with fail
            rw [dr]
            have HQ2 := Lib.hid (HQ.out.after hbq)
            have cu1 := HQ2.out.2.1.cell (j := m1) (by rw [HF.out.l, Z3.out]; omega)
            have cv1 : wq.cell? ⟨gv, 1, none⟩ = some (.int .u32 0) := HQ2.out.1.cell (j := 1) (by simp)
            rw [← HX1.out] at cu1
            have hqd : (q : Int) / 4294967296 = 0 := by omega
            have hwr2 : IntKind.u64.wrap ((r : Int) * 4294967296) = (r : Int) * 4294967296 := wrapU3 (by omega) (by omega)
            have hor2 := top64 (r := r) (x := x1) (by omega) bu1
            clear hbq dq dr wdq hwo HQ
            obtain ⟨p, hp⟩ : ∃ p : Nat, p = r * 4294967296 + x1 := ⟨_, rfl⟩
            rw [← hp] at hor2
            have tp : decide ((p : Int) < 0) = false := decide_eq_false (by omega)
            clear hp
            refine wp_loop_rounds 1 ?_
            rw [rounds_succ]
            go_wp2_with fail
            go_quiet (fail)
            go_wp2_with fail
            have HQ4 := Lib.hid (HQ2.out.after (below_drewN (Below.refl wq.heap.size wq) nq))
            generalize wq.drewN nq = wz at *
            have hul : us.length = n + 2 + 1 := by rw [HF.out.l, Z3.out]
            obtain ⟨x0, hx0⟩ : ∃ x0, x0 = H.wd us m := ⟨_, rfl⟩
            have bu0 : x0 < 4294967296 := by rw [hx0]; exact H.wd_lt HF.out.su m
            have HX0 := Lib.hid hx0
            obtain ⟨h1, h2⟩ := x_parts HQR.out hrb bu2
            obtain ⟨P, hP⟩ : ∃ P, P = q * 2147483648 := ⟨_, rfl⟩
            obtain ⟨d, hd⟩ : ∃ d, d = q % 2 * 2147483648 := ⟨_, rfl⟩
            have a1 : IntKind.u64.wrap ((q : Int) * 2147483648) = (P : Int) := by
              have e : (q : Int) * 2147483648 = (P : Int) := by omega
              rw [e]
              exact wrapU3 (by omega) (by omega)
            have a2 : (P : Int) % 4294967296 = (d : Int) := by omega
            have a3 : (x2 : Int) - (d : Int) = (r : Int) := by omega
            have a4 : (P : Int) / 4294967296 = (x3 : Int) := by omega
            have w0 : IntKind.u64.wrap (x0 : Int) = (x0 : Int) := wrapU3 (by omega) (by omega)
            have w1 : IntKind.u64.wrap (x1 : Int) = (x1 : Int) := wrapU3 (by omega) (by omega)
            have w2 : IntKind.u64.wrap (r : Int) = (r : Int) := wrapU3 (by omega) (by omega)
            have w3 : IntKind.u64.wrap (P : Int) = (P : Int) := wrapU3 (by omega) (by omega)
            have z0 : (x0 : Int) % 4294967296 = (x0 : Int) := by omega
            have z1 : (x1 : Int) % 4294967296 = (x1 : Int) := by omega
            have z2 : (r : Int) % 4294967296 = (r : Int) := by omega
            have v0 : (x0 : Int) / 9223372036854775808 = 0 := by omega
            have v1 : (x1 : Int) / 9223372036854775808 = 0 := by omega
            have v2 : (r : Int) / 9223372036854775808 = 0 := by omega
            have m0n : m < n + 2 + 1 := by omega
            have qm : (q : Int) % 4294967296 = (q : Int) := by omega
            have HRB := Lib.hid hrb
            have HQB := Lib.hid hqb
            clear hx0 h1 h2 hP hd HQ2 cu1 cv1 hqd hwr2 hor2 tp hrb
            go_loopw [18, 19, 174] (fun cv bv iv wr => (iv = .int .i64 0 ∧ cv = .int .u64 0 ∧ bv = .int .u64 0 ∧ Q3 w gv gu wm.heap.size us (List.replicate (m + 1) 0 ++ (ds ++ [0, 0, 0])) wr) ∨ (iv = .int .i64 1 ∧ cv = .int .u64 0 ∧ bv = .int .u64 0 ∧ Q3 w gv gu wm.heap.size us (List.replicate (m + 1) 0 ++ (ds ++ [0, 0, 0])) wr) ∨ (iv = .int .i64 2 ∧ cv = .int .u64 0 ∧ bv = .int .u64 0 ∧ Q3 w gv gu wm.heap.size us (List.replicate (m + 1) 0 ++ (ds ++ [0, 0, 0])) wr) ∨ (iv = .int .i64 3 ∧ cv = .int .u64 (x3 : Int) ∧ bv = .int .u64 0 ∧ Q3 w gv gu wm.heap.size (us.set m2 r) (List.replicate (m + 1) 0 ++ (ds ++ [0, 0, 0])) wr)) (fun _ _ iv _ => 3 - (intOf iv).toNat)
            case atStart => exact .inl ⟨rfl, rfl, rfl, HQ4.out⟩
            case round =>
              clear HQ4
              rcases hrel with ⟨rfl, rfl, rfl, hQ⟩ | ⟨rfl, rfl, rfl, hQ⟩ | ⟨rfl, rfl, rfl, hQ⟩ | ⟨rfl, rfl, rfl, hQ⟩
              · -- digit 0
                have cu := hQ.2.1.cell (j := m) (by rw [HF.out.l, Z3.out]; omega)
                rw [← HX0.out] at cu
                have fu := hQ.2.1.frozen m
                have cv : wr.cell? ⟨gv, 0, none⟩ = some (.int .u32 0) := hQ.1.cell (j := 0) (by simp)
                have HQ3 := Lib.hid (hQ.setU hne (Nat.ne_of_lt lu) hgu m x0)
                have e : us.set m x0 = us := by rw [HX0.out]; exact set_same
                rw [e] at HQ3
                clear e hQ
                go_wp2_with fail
                go_roundw
                case rel => exact .inr (.inl ⟨rfl, rfl, rfl, HQ3.out⟩)
                case measure => simp [intOf]
              · -- digit 1
                have cu := hQ.2.1.cell (j := m1) (by rw [HF.out.l, Z3.out]; omega)
                rw [← HX1.out] at cu
                have fu := hQ.2.1.frozen m1
                have cv : wr.cell? ⟨gv, 1, none⟩ = some (.int .u32 0) := hQ.1.cell (j := 1) (by simp)
                have HQ3 := Lib.hid (hQ.setU hne (Nat.ne_of_lt lu) hgu m1 x1)
                have e : us.set m1 x1 = us := by rw [HX1.out]; exact set_same
                rw [e] at HQ3
                clear e hQ
                go_wp2_with fail
                go_roundw
                case rel => exact .inr (.inr (.inl ⟨rfl, rfl, rfl, HQ3.out⟩))
                case measure => simp [intOf]
              · -- digit 2
                have cu := hQ.2.1.cell (j := m2) (by rw [HF.out.l, Z3.out]; omega)
                rw [← HX2.out] at cu
                have fu := hQ.2.1.frozen m2
                have cv : wr.cell? ⟨gv, 2, none⟩ = some (.int .u32 2147483648) := hQ.1.cell (j := 2) (by simp)
                have HQ3 := Lib.hid (hQ.setU hne (Nat.ne_of_lt lu) hgu m2 r)
                clear hQ
                go_wp2_with fail
                go_roundw
                case rel => exact .inr (.inr (.inr ⟨rfl, rfl, rfl, HQ3.out⟩))
                case measure => simp [intOf]
              · have cu := hQ.2.1.cell (j := m3) (by simp; omega)
                rw [wd_set_ne (by have := HM2.out; have := HM3.out; omega), ← HX3.out] at cu
                have fu := hQ.2.1.frozen m3
                have HQ5 : Q3 w gv gu wm.heap.size ((us.set m2 r).set m3 0) (List.replicate (m + 1) 0 ++ (ds ++ [0, 0, 0])) (wr.setCell ⟨gu, m3, none⟩ (.int .u32 0)) := hQ.setU hne (Nat.ne_of_lt lu) hgu m3 0
                have co := HQ5.2.2.1.cell (j := m) (by simp; omega)
                have fo := HQ5.2.2.1.frozen m
                have HQ6 := Lib.hid (HQ5.setO (Nat.ne_of_lt lv) (Nat.ne_of_lt lu) hBs m q)
                have HFN := Lib.hid (HF.out.next (x2 := x2) (x3 := x3) (q := q) (r := r) (by rw [← HM2.out]; exact HX2.out) (by rw [← HM3.out]; exact HX3.out) HQR.out HRB.out)
                rw [os_next] at HQ6
                rw [← HM2.out, ← HM3.out] at HFN
                have co2 : (wr.setCell ⟨gu, m3, none⟩ (.int .u32 0)).cell? ⟨wm.heap.size, m, none⟩ = some (.int .u32 0) := by
                  rw [co]
                  have : H.wd (List.replicate (m + 1) 0 ++ (ds ++ [0, 0, 0])) m = 0 := by
                    unfold H.wd
                    rw [List.getD_eq_getElem?_getD, List.getElem?_append_left (by simp), List.getElem?_replicate]; split <;> rfl
                  rw [this]; rfl
                clear hQ HQ5 HF co
                go_wp2_with fail
                go_roundw
                case rel => exact ⟨m, _, _, Nat.le_of_succ_le hk, rfl, HFN.out, HQ6.out⟩
                case measure => simp [intOf]
end Go.Proofs.Ytcfiigodefkncaa
