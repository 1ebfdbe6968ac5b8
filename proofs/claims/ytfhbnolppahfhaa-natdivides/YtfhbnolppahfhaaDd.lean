/- lotdrawerref.parts where the divisor has two digits. -/
import Derived.Test.YtfhbnolppahfhaaDx
import Derived.Deep.DeepFit
import Derived.Deep.DeepCutAuto
namespace Go.Proofs.Ytfhbnolppahfhaa
open Go.RowKit Go.Deep

theorem shl_one {y s : Nat} (h : y * 2 ^ s < 4294967296) : IntKind.u32.wrap ((y : Int) * 2 ^ s) = ((y * 2 ^ s : Nat) : Int) := by
  rw [pow_cast, castM]; exact wraps_u32 _ (by omega) (by omega)

/-- What shiftLeft makes, at a world behind w. -/
def Own (w' : World) (X n s : Nat) (e : Ending) (w2 : World) : Prop :=
  ∃ zs, e = .returned (.slice (some ⟨w'.heap.size, 0, none⟩) n n) ∧ H.Bk w2 w'.heap.size zs ∧ H.Sm zs ∧ zs.length = n ∧ H.val zs = X * 2 ^ s ∧ Below w'.heap.size w' w2
theorem own_of {A : Option Addr} {ca s : Nat} {xs : List Nat} {w w' : World} (ha : H.Wd w A xs) (hx : xs.length ≤ 400000) (hs : s ≤ 31) (hb : Below w.heap.size w w') :
    Calls Try.prog 54 #[.slice A xs.length ca, .int .i64 (s : Int)] w' fun e w2 => Own w' (H.val xs) (xs.length + 1) s e w2 := by
  refine (shiftLeft_own A ca s 0 s xs w' (ha.below hb) hx (Lib.hid (by omega)) (by omega) (by omega)).mono ?_
  rintro e w2 ⟨zs, rfl, h1, h2, h3, h4, h5⟩
  exact ⟨zs, by rw [h3], h1, h2, h3, h4, h5⟩

theorem vs_norm {vs : List Nat} {y0 y1 s : Nat} (hs : H.Sm vs) (hl : vs.length = 3) (hv : H.val vs = (y0 + 4294967296 * y1) * 2 ^ s) (h1 : y1 * 2 ^ s < 4294967296) (h2 : 2147483648 ≤ y1 * 2 ^ s) (hy : y0 < 4294967296) (hs31 : s ≤ 31) :
    ∃ a0 a1, vs = [a0, a1, 0] ∧ a0 < 4294967296 ∧ a1 < 4294967296 ∧ 2147483648 ≤ a1 ∧ a0 + 4294967296 * a1 = (y0 + 4294967296 * y1) * 2 ^ s := by
  match vs, hl with
  | [a0, a1, a2], _ =>
    have b0 : a0 < 4294967296 := hs a0 (by simp)
    have b1 : a1 < 4294967296 := hs a1 (by simp)
    simp only [H.val, H.Bw, Nat.mul_zero, Nat.add_zero] at hv
    have e : (y0 + 4294967296 * y1) * 2 ^ s = y0 * 2 ^ s + 4294967296 * (y1 * 2 ^ s) := by rw [Nat.add_mul, Nat.mul_assoc]
    have hp : 2 ^ (32 - s) * 2 ^ s = 4294967296 := by rw [← Nat.pow_add, show 32 - s + s = 32 by omega]
    have h3 : y1 + 1 ≤ 2 ^ (32 - s) := by
      rw [← hp] at h1
      exact Nat.lt_of_mul_lt_mul_right h1
    have h4 : (y1 + 1) * 2 ^ s ≤ 2 ^ (32 - s) * 2 ^ s := Nat.mul_le_mul_right _ h3
    rw [hp, Nat.add_mul, Nat.one_mul] at h4
    have h5 : y0 * 2 ^ s ≤ 4294967295 * 2 ^ s := Nat.mul_le_mul_right _ (by omega)
    have h6 : 0 < 2 ^ s := Nat.two_pow_pos s
    rw [e] at hv ⊢
    have : a2 = 0 := by omega
    subst this
    exact ⟨a0, a1, rfl, b0, b1, by omega, by omega⟩

/-- The two rows that parts lays at first. -/
def Laid (w : World) (X Y n s : Nat) (s11 s12 : Value) (wx : World) : Prop :=
  ∃ gv gu vs zs, s11 = .slice (some ⟨gv, 0, none⟩) 2 3 ∧ s12 = .slice (some ⟨gu, 0, none⟩) (n + 1) (n + 1) ∧ gv ≠ gu ∧ w.heap.size ≤ gv ∧ w.heap.size ≤ gu ∧ H.Bk wx gv vs ∧ H.Sm vs ∧ vs.length = 3 ∧ H.val vs = Y * 2 ^ s ∧
    H.Bk wx gu zs ∧ H.Sm zs ∧ zs.length = n + 1 ∧ H.val zs = X * 2 ^ s ∧ Below w.heap.size w wx

theorem P2.after {w wr wx : World} {gv gu go V : Nat} {vs zs : List Nat} {k : Nat} (h : P2 w gv gu go V vs zs k wr) (hb : Below wr.heap.size wr wx) : P2 w gv gu go V vs zs k wx := by
  obtain ⟨us, ds, a1, a2, a3, a4, a5, a6, a7, a8, a9, a10, a11⟩ := h
  exact ⟨us, ds, a1, a2, a3, a4, a5, a6, a7, a8.below hb a8.lt, a9.below hb a9.lt, a10.below hb a10.lt, a11.trans (hb.mono a11.size)⟩
theorem QInv.start2 {U V1 yn1 yn0 : Int} (h : QOk U V1 yn1 yn0) : QInv U V1 yn1 yn0 (IntKind.u64.wrap (U / yn1)) (U % yn1) := by
  have hs := QInv.start h
  have e : U % yn1 = U - U / yn1 * yn1 := by rw [Int.emod_def, Int.mul_comm]
  rw [e, wrapU hs.2.1 (by have := hs.2.2.1; omega)]
  exact hs
theorem q_hi {q : Int} (h : 4294967296 ≤ q) (h2 : q ≤ 4294967296 + 4294967295) : q / 4294967296 = 1 := by omega
theorem q_lo {q : Int} (h : 0 ≤ q) (h2 : q < 4294967296) : q / 4294967296 = 0 := by omega
theorem q_meas {q : Int} (h : 1 ≤ q) : (intOf (.int .u64 (q - 1))).toNat < (intOf (.int .u64 q)).toNat := by simp [intOf]; omega
theorem r_two {r : Int} {a : Nat} (h : r < 4294967296) (ha : a < 4294967296) : r + (a : Int) ≤ 4294967296 + 4294967295 := by omega
theorem nat_lt {a : Nat} (h : a < 4294967296) : (a : Int) < 4294967296 := by omega
theorem wrapR {r : Int} (h0 : 0 ≤ r) (h1 : r < 4294967296) : IntKind.u64.wrap (r * 4294967296) = r * 4294967296 := wrapU (by omega) (by omega)
theorem wrapO {r : Int} {x : Nat} (h0 : 0 ≤ r) (h1 : r < 4294967296) (hx : x < 4294967296) : IntKind.u64.wrap (r * 4294967296 + (x : Int)) = r * 4294967296 + (x : Int) := wrapU (by omega) (by omega)
theorem t_comm {r t : Int} {x : Nat} (h : r * 4294967296 + (x : Int) < t) : 4294967296 * r + (x : Int) < t := by omega
theorem P2.vcells {w wr : World} {gv gu go V a0 a1 : Nat} {zs : List Nat} {k : Nat} (h : P2 w gv gu go V [a0, a1, 0] zs k wr) : wr.cell? ⟨gv, 0, none⟩ = some (.int .u32 (a0 : Int)) ∧ wr.cell? ⟨gv, 1, none⟩ = some (.int .u32 (a1 : Int)) := by
  obtain ⟨_, _, _, _, _, _, _, _, _, p8, _, _, _⟩ := h
  exact ⟨p8.cell (j := 0) (by simp), p8.cell (j := 1) (by simp)⟩
theorem q_prods {U V1 : Int} {a0 a1 : Nat} {q : Int} (h : QFin U V1 (a1 : Int) (a0 : Int) q) (b0 : a0 < 4294967296) (b1 : a1 < 4294967296) :
    ∃ c0 c1 : Int, IntKind.u64.wrap (q * (a0 : Int)) = c0 ∧ IntKind.u64.wrap (q * (a1 : Int)) = c1 ∧ 0 ≤ c0 ∧ c0 ≤ 18446744065119617025 ∧ 0 ≤ c1 ∧ c1 ≤ 18446744065119617025 ∧ Hid (c0 = q * (a0 : Int) ∧ c1 = q * (a1 : Int)) := by
  obtain ⟨h0, h1, _, _⟩ := h
  have k0 : q * (a0 : Int) ≤ 4294967295 * 4294967295 := Int.mul_le_mul (by omega) (by omega) (by omega) (by omega)
  have k1 : q * (a1 : Int) ≤ 4294967295 * 4294967295 := Int.mul_le_mul (by omega) (by omega) (by omega) (by omega)
  have n0 := q_mul_nn h0 (Int.natCast_nonneg a0)
  have n1 := q_mul_nn h0 (Int.natCast_nonneg a1)
  exact ⟨_, _, wrapU n0 (by omega), wrapU n1 (by omega), n0, by omega, n1, by omega, ⟨rfl, rfl⟩⟩
theorem t_comm' {r t : Int} {x : Nat} (h : t ≤ r * 4294967296 + (x : Int)) : t ≤ 4294967296 * r + (x : Int) := by omega
theorem P2.free {w wq : World} {gv gu go V a0 a1 m m1 m2 x1 x2 : Nat} {zs us : List Nat} (h : P2 w gv gu go V [a0, a1, 0] zs (m + 1) wq) (hU : H.Bk wq gu us) (hvu : gv ≠ gu) (hvo : gv ≠ go) (huo : gu ≠ go) (M1 : m1 = m + 1) (M2 : m2 = m + 2) (l1 : m1 < us.length) (l2 : m2 < us.length)
    (y1 : x1 = H.wd us m1) (y2 : x2 = H.wd us m2) (d0 d1 : Nat) :
    (wq.setCell ⟨gu, m, none⟩ (.int .u32 (d0 : Int))).cell? ⟨gu, m1, none⟩ = some (.int .u32 (x1 : Int)) ∧ (wq.setCell ⟨gu, m, none⟩ (.int .u32 (d0 : Int))).frozen? ⟨gu, m1, none⟩ = false ∧
    (wq.setCell ⟨gu, m, none⟩ (.int .u32 (d0 : Int))).cell? ⟨gv, 1, none⟩ = some (.int .u32 (a1 : Int)) ∧
    ((wq.setCell ⟨gu, m, none⟩ (.int .u32 (d0 : Int))).setCell ⟨gu, m1, none⟩ (.int .u32 (d1 : Int))).cell? ⟨gu, m2, none⟩ = some (.int .u32 (x2 : Int)) ∧ ((wq.setCell ⟨gu, m, none⟩ (.int .u32 (d0 : Int))).setCell ⟨gu, m1, none⟩ (.int .u32 (d1 : Int))).frozen? ⟨gu, m2, none⟩ = false ∧
    (((wq.setCell ⟨gu, m, none⟩ (.int .u32 (d0 : Int))).setCell ⟨gu, m1, none⟩ (.int .u32 (d1 : Int))).setCell ⟨gu, m2, none⟩ (.int .u32 0)).cell? ⟨go, m, none⟩ = some (.int .u32 0) ∧
    (((wq.setCell ⟨gu, m, none⟩ (.int .u32 (d0 : Int))).setCell ⟨gu, m1, none⟩ (.int .u32 (d1 : Int))).setCell ⟨gu, m2, none⟩ (.int .u32 0)).frozen? ⟨go, m, none⟩ = false := by
  obtain ⟨_, ds, _, _, _, q4, _, _, _, p8, _, p10, _⟩ := h
  have u1 := hU.set m d0
  have u2 := u1.set m1 d1
  have v1 := Bk_other p8 ⟨gu, m, none⟩ (.int .u32 (d0 : Int)) hvu
  have o3 := Bk_other (Bk_other (Bk_other p10 ⟨gu, m, none⟩ (.int .u32 (d0 : Int)) (Ne.symm huo)) ⟨gu, m1, none⟩ (.int .u32 (d1 : Int)) (Ne.symm huo)) ⟨gu, m2, none⟩ (.int .u32 0) (Ne.symm huo)
  refine ⟨by rw [u1.cell (by simpa using l1), wd_set_ne (by omega), y1], u1.frozen _, v1.cell (j := 1) (by simp), by rw [u2.cell (by simpa using l2), wd_set_ne (by omega), wd_set_ne (by omega), y2], u2.frozen _, ?_, o3.frozen _⟩
  rw [o3.cell (by simp; omega)]
  have : H.wd (List.replicate (m + 1) 0 ++ (ds ++ [0, 0])) m = 0 := by
    unfold H.wd
    rw [List.getD_eq_getElem?_getD, List.getElem?_append_left (by simp), List.getElem?_replicate]; split <;> rfl
  rw [this]; rfl
theorem top64i {r : Int} {x : Nat} (h0 : 0 ≤ r) (h1 : r < 4294967296) (hx : x < 4294967296) : bits BinOp.or IntKind.u64 (r * 4294967296) (x : Int) = r * 4294967296 + (x : Int) := by
  obtain ⟨k, rfl⟩ := Int.eq_ofNat_of_zero_le h0
  rw [top64 (by omega) hx]
  omega

set_option maxRecDepth 100000 in
set_option maxHeartbeats 4000000 in
theorem parts2_any (A B : Option Addr) (ca cb y0 y1 : Nat) (xs : List Nat) (w : World) (ha : H.Wd w A xs) (hb : H.Wd w B [y0, y1]) (hx : xs.length ≤ 400000) (hx3 : 3 ≤ xs.length) (hy : 0 < y1) :
    Calls Try.prog 57 #[.slice A xs.length ca, .slice B 2 cb] w fun e w' => Parts (H.val xs) (H.val [y0, y1]) w e w' := by
  have hyB : y1 < 4294967296 := hb.1 y1 (by simp)
  obtain ⟨b2, o2, rfl, ⟨hl2, cs2, fr2, hcs2⟩, hc2⟩ := hb.2 (by simp)
  have e1 : w.cell? ⟨b2, o2 + 1, none⟩ = some (.int .u32 (y1 : Int)) := hc2 1 (by simp)
  have HA := Lib.hid ha
  have HB := Lib.hid hb
  clear ha hb hc2 hcs2
  go_enter Try.func57, Try.ntmps57
  go_wp2_with fail
  go_loop [9] (fun t => ∃ s : Nat, t = .int .i64 s ∧ s ≤ 31 ∧ y1 * 2 ^ s < 4294967296) (fun t => 32 - (intOf t).toNat)
  case atStart => exact ⟨0, rfl, by omega, by omega⟩
  case round =>
    obtain ⟨s, rfl, hs, hys⟩ := hrel
    have hsh := shl_one hys
    obtain ⟨z, hz⟩ : ∃ z, z = y1 * 2 ^ s := ⟨_, rfl⟩
    rw [← hz] at hsh hys
    have HZ := Lib.hid hz
    clear hz
    by_cases hz : z < 2147483648
    · have hz0 : (z : Int) / 2147483648 = 0 := by omega
      have hs2 : s + 1 ≤ 31 := by
        rcases Nat.lt_or_ge s 31 with h | h
        · omega
        · exfalso
          have : (2 : Nat) ^ 31 ≤ 2 ^ s := Nat.pow_le_pow_right (by omega) h
          have h2 : 1 * 2 ^ s ≤ y1 * 2 ^ s := Nat.mul_le_mul_right _ hy
          rw [← HZ.out] at h2
          omega
      go_wp2
      go_round
      case rel => exact ⟨s + 1, by go_num, hs2, by rw [Nat.pow_succ, ← Nat.mul_assoc, ← HZ.out]; omega⟩
      case measure => simp [intOf]; omega
    · have hz1 : (z : Int) / 2147483648 = 1 := by omega
      have CY : Hid (∀ w', Below w.heap.size w w' → Calls Try.prog 54 #[.slice (some ⟨b2, o2, none⟩) 2 cb, .int .i64 (s : Int)] w' fun e w2 => Own w' (H.val [y0, y1]) 3 s e w2) := fun w' h => own_of (xs := [y0, y1]) HB.out (by simp) hs h
      have CX : Hid (∀ w', Below w.heap.size w w' → Calls Try.prog 54 #[.slice A xs.length ca, .int .i64 (s : Int)] w' fun e w2 => Own w' (H.val xs) (xs.length + 1) s e w2) := fun w' h => own_of (xs := xs) HA.out hx hs h
      go_wp2_with fail
      clear hsh hz1
      go_cut [11, 12] (fun s11 s12 wx => Laid w (H.val xs) (H.val [y0, y1]) xs.length s s11 s12 wx)
      case first =>
        as_aux_lemma =>
          go_region_with (first
            | (go_at_call 54; go_fit (CY.out _ ((Below.refl _ w).drew)); rintro e w1 ⟨vs, rfl, v1, v2, v3, v4, hB1⟩; have V1 := Lib.hid v1; have V2 := Lib.hid v2; have V3 := Lib.hid v3; have V4 := Lib.hid v4; have B1 : Hid (Below w.heap.size w w1) := (Below.refl _ w).drew.trans hB1; clear v1 v2 v3 v4 hB1)
            | (go_at_call 54; go_fit (CX.out _ (B1.out)); rintro e w2 ⟨zs, rfl, z1, z2, z3, z4, hB2⟩; have Z1 := Lib.hid z1; have Z2 := Lib.hid z2; have Z3 := Lib.hid z3; have Z4 := Lib.hid z4; have B2 := Lib.hid hB2; clear z1 z2 z3 z4 hB2))
          all_goals (go_wp2_with fail; go_meet; exact ⟨w.heap.size, w1.heap.size, vs, zs, rfl, rfl, Nat.ne_of_lt V1.out.lt, Nat.le_refl _, B1.out.size, V1.out.below B2.out V1.out.lt, V2.out, V3.out, V4.out, Z1.out, Z2.out, Z3.out, Z4.out, B1.out.trans (B2.out.mono B1.out.size)⟩)
      case rest =>
        obtain ⟨gv, gu, vs, zs, rfl, rfl, hne, hgv, hgu, v1, v2, v3, v4, z1, z2, z3, z4, hB⟩ := hcut
        obtain ⟨wm, rfl⟩ : ∃ wm : World, wm = wc := ⟨_, rfl⟩
        have hy0 : y0 < 4294967296 := HB.out.1 y0 (by simp)
        have hYV : H.val [y0, y1] = y0 + 4294967296 * y1 := by simp [H.val, H.Bw]
        obtain ⟨a0, a1, rfl, b0, b1, b3, hV⟩ := vs_norm v2 v3 (by rw [v4, hYV]) (by rw [← HZ.out]; exact hys) (by rw [← HZ.out]; omega) hy0 hs
        obtain ⟨V, hVV⟩ : ∃ V, V = a0 + 4294967296 * a1 := ⟨_, rfl⟩
        have hVY : Hid (V = H.val [y0, y1] * 2 ^ s) := by show V = _; rw [hVV, hV, hYV]
        obtain ⟨n, hn⟩ : ∃ n, xs.length = n + 1 := ⟨xs.length - 1, by omega⟩
        rw [hn] at z3 hx hx3
        rw [hn]
        have hX : Hid (H.val xs < H.Bw ^ (n + 1)) := by have := H.val_lt HA.out.1; rw [hn] at this; exact this
        have hmk := run_make_row' (P := Try.prog) 33 62 (.int .u32 0) 4 Try.underlying33 Try.info62 rfl .i64 .i64 (n + 1 + 1) (by omega) (by omega)
        simp only [Int.natCast_add, Int.cast_ofNat_Int] at hmk
        have ST : Hid (P2 w gv gu wm.heap.size V [a0, a1, 0] zs n (wm.alloc (.cells (madeCells #[.int .u32 0] (n + 1 + 1)) 62))) := by
          refine P2.start z3 z2 (top_lt z2 z3 hX.out z4 hs (by rw [hVV]; unfold H.Bw; omega)) (v1.below (below_alloc _ _) v1.lt) (z1.below (below_alloc _ _) z1.lt) (H.Bk.made _ _) (hB.alloc hB.size _)
        have lv := v1.lt
        have lu := z1.lt
        have Z4 := Lib.hid z4
        have Z3 := Lib.hid z3
        have hBs := hB.size
        have HVV := Lib.hid hVV
        clear v1 v2 v3 v4 z1 z2 z4 hB hV hYV CX CY HZ hz hys e1 HB HA hX z3 hVV
        go_wp2_with fail
        go_loopw [14] (fun i wr => ∃ k : Nat, k ≤ n ∧ i = .int .i64 ((k : Int) - 1) ∧ P2 w gv gu wm.heap.size V [a0, a1, 0] zs k wr) (fun i _ => (intOf i + 1).toNat)
        case atStart => exact ⟨n, Nat.le_refl _, by go_num, ST.out⟩
        case round =>
          clear ST hmk
          obtain ⟨k, hk, rfl, hP⟩ := hrel
          have HP := Lib.hid hP
          clear hP
          cases k with
          | zero =>
            as_aux_lemma =>
              rw [show ((0 : Nat) : Int) - 1 = -1 from rfl]
              obtain ⟨os, us, o1, o2, o3, o4, o5, o6, o7⟩ := HP.out.done (by rw [HVV.out]; omega)
              have ol : (us.take 2).length = 2 := by rw [List.length_take, o2, Z3.out]; omega
              have CR := shiftRight_any (some ⟨gu, 0, none⟩) (n + 1 + 1) s (us.take 2) wr o4 (by omega) (by omega) (by omega)
              rw [ol, o6, Z4.out, hVY.out, scale_mod] at CR
              rw [Z4.out, hVY.out, scale_div] at o5
              have HCR := Lib.hid CR
              have O1 : Hid (os.length = n + 1 + 1) := by show os.length = _; rw [o1, Z3.out]
              have O3 := Lib.hid o3
              have O5 := Lib.hid o5
              have O7 := Lib.hid o7
              clear o1 o2 o3 o4 o5 o6 o7 ol CR
              go_wp2_with fail
              refine HCR.out.mono ?_
              rintro e w9 ⟨R, c, rs, rfl, q1, q2, q3, q4, q5⟩
              have Q1 := Lib.hid q1
              have Q4 := Lib.hid q4
              have Q5 := Lib.hid q5
              clear q1 q4 q5 HCR
              go_wp2
              go_ret2
              exact ⟨some ⟨wm.heap.size, 0, none⟩, R, os, rs, n + 1 + 1, c, by rw [O1.out]; rfl, O3.out.below Q5.out, Q1.out, by rw [O1.out]; exact Nat.le_refl _, q3, by rw [O1.out]; omega, q2, O5.out, Q4.out, O7.out.trans (Q5.out.mono O7.out.size)⟩
          | succ m =>
            rw [show ((m + 1 : Nat) : Int) - 1 = (m : Int) by omega]
            obtain ⟨wo, rfl⟩ : ∃ wo : World, wo = wr := ⟨_, rfl⟩
            obtain ⟨us, ds, p1, p2, p3, p4, p5, p6, p7, p8, p9, p10, p11⟩ := HP.out
            rw [Z3.out] at p1 p4
            obtain ⟨m1, hm1⟩ : ∃ m1, m1 = m + 1 := ⟨_, rfl⟩
            obtain ⟨m2, hm2⟩ : ∃ m2, m2 = m + 2 := ⟨_, rfl⟩
            have cu0 := p9.cell (j := m) (by omega)
            have cu1 := p9.cell (j := m1) (by omega)
            have cu2 := p9.cell (j := m2) (by omega)
            have cv0 : wo.cell? ⟨gv, 0, none⟩ = some (.int .u32 (a0 : Int)) := p8.cell (j := 0) (by simp)
            have cv1 : wo.cell? ⟨gv, 1, none⟩ = some (.int .u32 (a1 : Int)) := p8.cell (j := 1) (by simp)
            have bu0 : H.wd us m < 4294967296 := H.wd_lt p2 m
            have bu1 : H.wd us m1 < 4294967296 := H.wd_lt p2 m1
            have bu2 : H.wd us m2 < 4294967296 := H.wd_lt p2 m2
            obtain ⟨x0, hx0⟩ : ∃ x0, x0 = H.wd us m := ⟨_, rfl⟩
            obtain ⟨x1, hx1⟩ : ∃ x1, x1 = H.wd us m1 := ⟨_, rfl⟩
            obtain ⟨x2, hx2⟩ : ∃ x2, x2 = H.wd us m2 := ⟨_, rfl⟩
            rw [← hx0] at cu0 bu0
            rw [← hx1] at cu1 bu1
            rw [← hx2] at cu2 bu2
            have P9 := Lib.hid p9
            have MU0 : Hid (m < us.length) := by show m < us.length; omega
            have MU1 : Hid (m1 < us.length) := by show m1 < us.length; omega
            have MU2 : Hid (m2 < us.length) := by show m2 < us.length; omega
            have hor := top64 bu2 bu1
            have hK : Hid (QOk ((x2 * 4294967296 + x1 : Nat) : Int) (x0 : Int) (a1 : Int) (a0 : Int)) := by
              have : x1 + 4294967296 * x2 < a0 + 4294967296 * a1 := by rw [hx1, hx2, hm1, hm2, ← HVV.out]; exact p6
              exact ⟨by omega, by omega, by omega, by omega, by omega, by omega, by omega, by omega⟩
            obtain ⟨T, hT⟩ : ∃ T, T = x2 * 4294967296 + x1 := ⟨_, rfl⟩
            rw [← hT] at hor hK
            have HT := Lib.hid hT
            have hTB : T < 18446744073709551616 := by omega
            have hmn : m2 < n + 1 + 1 := by omega
            have HX0 := Lib.hid hx0
            have HX1 := Lib.hid hx1
            have HX2 := Lib.hid hx2
            have HM1 := Lib.hid hm1
            have HM2 := Lib.hid hm2
            have wd0 : IntKind.u64.wrap ((x2 : Int) * 4294967296) = (x2 : Int) * 4294967296 := wrapU (by omega) (by omega)
            have hm1n : m1 < n + 1 + 1 := by omega
            have hmn0 : m < n + 1 + 1 := by omega
            have ha1z := eqz_no (x := a1) (by omega)
            have g2 : IntKind.i64.wrap (m2 : Int) = (m2 : Int) := by rw [IntKind.wrap_i64]; omega
            have g1 : IntKind.i64.wrap (m1 : Int) = (m1 : Int) := by rw [IntKind.wrap_i64]; omega
            have g0 : IntKind.i64.wrap (m : Int) = (m : Int) := by rw [IntKind.wrap_i64]; omega
            have s2 : (m : Int) + 2 = (m2 : Int) := by omega
            have s3 : (m2 : Int) - 1 = (m1 : Int) := by omega
            have s4 : (m2 : Int) - 2 = (m : Int) := by omega
            have s1 : (m : Int) + 1 = (m1 : Int) := by omega
            clear p1 p2 p3 p4 p5 p6 p7 p8 p9 p10 p11 hx0 hx1 hx2 hm1 hm2 hT
            go_wp2_with fail
            go_quiet (fail)
            go_wp2_with fail
            go_quiet (fail)
            go_upto_block 6 with (fail)
            clear cu0 cu1 cu2 cv0 cv1 hor wd0
            go_cut [16, 17] (fun s16 s17 wx => ∃ q' : Int, s16 = .int .u64 q' ∧ QFin (T : Int) (x0 : Int) (a1 : Int) (a0 : Int) q' ∧ P2 w gv gu wm.heap.size V [a0, a1, 0] zs (m + 1) wx ∧ H.Bk wx gu us)
            case first =>
              as_aux_lemma =>
                go_wp2_with fail
                go_loopw [16, 17] (fun a b wx => ∃ q r : Int, a = .int .u64 q ∧ b = .int .u64 r ∧ QInv (T : Int) (x0 : Int) (a1 : Int) (a0 : Int) q r ∧ P2 w gv gu wm.heap.size V [a0, a1, 0] zs (m + 1) wx ∧ H.Bk wx gu us) (fun a _ _ => (intOf a).toNat)
                case atStart => exact ⟨_, _, rfl, rfl, QInv.start2 hK.out, HP.out.after (below_drewN (below_drewN (Below.refl wo.heap.size wo) _) _), P9.out.below (below_drewN (below_drewN (Below.refl wo.heap.size wo) _) _) P9.out.lt⟩
                case round =>
                  obtain ⟨q, r, rfl, rfl, hQ, hP, hU⟩ := hrel
                  have HQ := Lib.hid hQ
                  have HP2 := Lib.hid hP
                  have HU := Lib.hid hU
                  obtain ⟨_, i2, i3, i4, i5, _⟩ := hQ
                  obtain ⟨_, _, _, _, _, _, _, _, _, p8, _, _, _⟩ := hP
                  have cu0 : wr.cell? ⟨gu, m, none⟩ = some (.int .u32 (x0 : Int)) := by rw [hU.cell MU0.out, HX0.out]
                  have cv0 : wr.cell? ⟨gv, 0, none⟩ = some (.int .u32 (a0 : Int)) := p8.cell (j := 0) (by simp)
                  have cv1 : wr.cell? ⟨gv, 1, none⟩ = some (.int .u32 (a1 : Int)) := p8.cell (j := 1) (by simp)
                  clear p8 hU HP P9
                  by_cases hq : 4294967296 ≤ q
                  · have hqd := q_hi hq (Int.le_trans i3 (by decide))
                    have hp := (HQ.out.pos hK.out (.inl hq)).1
                    by_cases hr : r + (a1 : Int) < 4294967296
                    · have hrd := q_lo (Int.add_nonneg i4 (Int.natCast_nonneg a1)) hr
                      go_wp2_with fail
                      go_quiet (fail)
                      go_wp2_with fail
                      go_roundw
                      case rel => exact ⟨_, _, rfl, rfl, HQ.out.step hK.out (.inl hq) hr, HP2.out.after (below_drewN (Below.refl wr.heap.size wr) _), HU.out.below (below_drewN (Below.refl wr.heap.size wr) _) HU.out.lt⟩
                      case measure => exact q_meas hp
                    · have hrd := q_hi (Int.not_lt.1 hr) (r_two i5 b1)
                      have HF := Lib.hid (HQ.out.out hK.out (.inl hq) (Int.not_lt.1 hr))
                      go_wp2_with fail
                      go_quiet (fail)
                      go_wp2_with fail
                      go_meet
                      case rel => exact ⟨_, rfl, HF.out, HP2.out.after (below_drewN (Below.refl wr.heap.size wr) _), HU.out.below (below_drewN (Below.refl wr.heap.size wr) _) HU.out.lt⟩
                  · have hq2 := Int.not_le.1 hq
                    have hqd := q_lo i2 hq2
                    have hwm := wrapQ i2 hq2 (Int.natCast_nonneg a0) (nat_lt b0)
                    have hwr := wrapR i4 i5
                    have hor := top64i i4 i5 bu0
                    have hwo := wrapO i4 i5 bu0
                    by_cases ht : r * 4294967296 + (x0 : Int) < q * (a0 : Int)
                    · have htd : decide (r * 4294967296 + (x0 : Int) < q * (a0 : Int)) = true := decide_eq_true ht
                      have ht' := t_comm ht
                      have hp := (HQ.out.pos hK.out (.inr ht')).1
                      by_cases hr : r + (a1 : Int) < 4294967296
                      · have hrd := q_lo (Int.add_nonneg i4 (Int.natCast_nonneg a1)) hr
                        go_wp2_with fail
                        go_quiet (fail)
                        go_wp2_with fail
                        go_roundw
                        case rel => exact ⟨_, _, rfl, rfl, HQ.out.step hK.out (.inr ht') hr, HP2.out.after (below_drewN (Below.refl wr.heap.size wr) _), HU.out.below (below_drewN (Below.refl wr.heap.size wr) _) HU.out.lt⟩
                        case measure => exact q_meas hp
                      · have hrd := q_hi (Int.not_lt.1 hr) (r_two i5 b1)
                        have HF := Lib.hid (HQ.out.out hK.out (.inr ht') (Int.not_lt.1 hr))
                        go_wp2_with fail
                        go_quiet (fail)
                        go_wp2_with fail
                        go_meet
                        case rel => exact ⟨_, rfl, HF.out, HP2.out.after (below_drewN (Below.refl wr.heap.size wr) _), HU.out.below (below_drewN (Below.refl wr.heap.size wr) _) HU.out.lt⟩
                    · have htd : decide (r * 4294967296 + (x0 : Int) < q * (a0 : Int)) = false := decide_eq_false ht
                      have HF := Lib.hid (HQ.out.stop hq2 (t_comm' (Int.not_lt.1 ht)))
                      go_wp2_with fail
                      go_quiet (fail)
                      go_wp2_with fail
                      go_meet
                      case rel => exact ⟨_, rfl, HF.out, HP2.out.after (below_drewN (Below.refl wr.heap.size wr) _), HU.out.below (below_drewN (Below.refl wr.heap.size wr) _) HU.out.lt⟩
            case rest =>
              as_aux_lemma =>
                obtain ⟨q', rfl, hF, hP3, hU3⟩ := hcut
                have HF := Lib.hid hF
                have HP3 := Lib.hid hP3
                have HU3 := Lib.hid hU3
                obtain ⟨qn, rfl, c0, c1, e0, p0, S1, p1, e1, W0, W1, t0, t1, d0, d1, hs3⟩ := sub3 HT.out hK.out HF.out bu0 bu1 bu2
                have HS3 := Lib.hid hs3
                obtain ⟨k0, k1, k2, k3, k4, k5, k6, k7, k8, k9, k10, k11, k12, k13, k14, ⟨k15, k16⟩, ⟨k17, k18⟩, ⟨k19, k20⟩, _, _⟩ := hs3
                clear hF hP3 hU3 HP P9
                have cu0 : wc.cell? ⟨gu, m, none⟩ = some (.int .u32 (x0 : Int)) := by rw [HU3.out.cell MU0.out, HX0.out]
                have fu0 := HU3.out.frozen m
                obtain ⟨cv0, cv1⟩ := HP3.out.vcells
                obtain ⟨y1, y2, y3, y4, y5, y6, y7⟩ := HP3.out.free HU3.out hne (Nat.ne_of_lt lv) (Nat.ne_of_lt lu) HM1.out HM2.out MU1.out MU2.out HX1.out HX2.out d0 d1
                go_wp2_with fail
                refine wp_loop_rounds 3 ?_
                rw [rounds_succ]
                go_wp2_with fail
                rw [rounds_succ]
                go_wp2_with fail
                rw [rounds_succ]
                go_wp2_with fail
                go_roundw
                case rel =>
                  have N := HP3.out.next hne (Nat.ne_of_lt lv) (Nat.ne_of_lt lu) hgu hBs HU3.out HS3.out.hq HS3.out.h17.1 HS3.out.h17.2 (by rw [HVV.out]; exact HS3.out.h18) (by rw [HVV.out, ← HM1.out, ← HM2.out, ← HX0.out, ← HX1.out, ← HX2.out]; exact HS3.out.h19)
                  rw [← HM1.out, ← HM2.out] at N
                  first
                    | exact ⟨m, Nat.le_of_succ_le hk, rfl, N⟩
                    | ((repeat apply Exists.intro); exact ⟨⟨m, Nat.le_of_succ_le hk, rfl, N⟩, rfl⟩)
                case measure => simp [intOf]
end Go.Proofs.Ytfhbnolppahfhaa
