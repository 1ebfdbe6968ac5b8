/- Int.Mul. -/
import Derived.Test.YtclfimpcacoefaaI6
namespace Go.Proofs.Ytclfimpcacoefaa
open Go.RowKit Go.Deep

theorem H.wd_drop (zs : List Nat) (off k : Nat) : H.wd (zs.drop off) k = H.wd zs (off + k) := by
  unfold H.wd; rw [List.getD_eq_getElem?_getD, List.getD_eq_getElem?_getD, List.getElem?_drop]
theorem H.wd_mid {zs ds : List Nat} {off k : Nat} (h1 : ds.length = k) (ho : off ≤ zs.length) : H.wd (zs.take off ++ ds ++ zs.drop (off + k)) (off + k) = H.wd zs (off + k) := by
  have hl : (zs.take off ++ ds).length = off + k := by simp [h1]; omega
  unfold H.wd
  rw [List.getD_eq_getElem?_getD, List.getD_eq_getElem?_getD, List.getElem?_append_right (by omega), hl, Nat.sub_self, List.getElem?_drop]
  simp

/-- The row of a product: k digits of one factor's are done, c is carried. -/
def HMul (w : World) (g off : Nat) (zs ys : List Nat) (f k c : Nat) (wr : World) : Prop :=
  ∃ ds, ds.length = k ∧ H.Sm ds ∧ c < H.Bw ∧ H.val ds + H.Bw ^ k * c = H.val ((zs.drop off).take k) + f * H.val (ys.take k) ∧ H.Bk wr g (zs.take off ++ ds ++ zs.drop (off + k)) ∧ Below g w wr
theorem HMul.start {w : World} {g off : Nat} {zs ys : List Nat} (f : Nat) (h : H.Bk w g zs) : HMul w g off zs ys f 0 0 w :=
  ⟨[], rfl, H.Sm.nil, H.Bw_pos, by simp [H.val], by simpa using h, Below.refl _ _⟩
theorem HMul.next {w wr : World} {g off : Nat} {zs ys : List Nat} {f k c d c' : Nat} {v : Int} (h : HMul w g off zs ys f k c wr) (ho : off + k < zs.length) (hd : d < H.Bw) (hc' : c' < H.Bw)
    (e : d + H.Bw * c' = H.wd ys k * f + H.wd zs (off + k) + c) (hv : v = (d : Int)) :
    HMul w g off zs ys f (k + 1) c' (wr.setCell ⟨g, off + k, none⟩ (.int .u32 v)) := by
  obtain ⟨ds, h1, h2, h3, h4, h5, h6⟩ := h
  subst hv
  refine ⟨ds ++ [d], by simp [h1], h2.append (H.Sm.one hd), hc', ?_, ?_, h6.setCell (Nat.le_refl _) _⟩
  · rw [H.val_append, h1, H.val_take_any, H.val_take_any, H.wd_drop]
    simp only [H.val, Nat.mul_zero, Nat.add_zero]
    have e2 : H.Bw ^ k * d + H.Bw ^ (k + 1) * c' = H.Bw ^ k * (H.wd ys k * f) + H.Bw ^ k * H.wd zs (off + k) + H.Bw ^ k * c := by
      rw [Nat.pow_succ, Nat.mul_assoc, ← Nat.mul_add, e, Nat.mul_add, Nat.mul_add]
    have e3 : f * (H.val (ys.take k) + H.Bw ^ k * H.wd ys k) = f * H.val (ys.take k) + H.Bw ^ k * (H.wd ys k * f) := by
      rw [Nat.mul_add, Nat.mul_left_comm f, Nat.mul_comm f (H.wd ys k)]
    omega
  · have := h5.set (off + k) d
    rw [set_mid h1 ho] at this
    exact this
theorem HMul.free {w wr : World} {g off : Nat} {zs ys : List Nat} {f k c : Nat} (h : HMul w g off zs ys f k c wr) (ho : off + k < zs.length) :
    wr.cell? ⟨g, off + k, none⟩ = some (.int .u32 (H.wd zs (off + k) : Int)) ∧ wr.frozen? ⟨g, off + k, none⟩ = false := by
  obtain ⟨ds, h1, h2, h3, h4, h5, h6⟩ := h
  refine ⟨?_, h5.frozen _⟩
  rw [h5.cell (by simp [h1]; omega), H.wd_mid h1 (by omega)]

/-- What stands in the loop of Mul: i digits of the first are done. -/
def HProd (w : World) (g : Nat) (xs ys : List Nat) (i : Nat) (wr : World) : Prop :=
  ∃ zs, zs.length = xs.length + ys.length ∧ H.Sm zs ∧ H.val (zs.take (i + ys.length)) = H.val (xs.take i) * H.val ys ∧ H.Bk wr g zs ∧ Below g w wr
theorem HProd.next {w wr w' : World} {g : Nat} {xs ys zs : List Nat} {i c : Nat} {v : Int} (h1 : zs.length = xs.length + ys.length) (h2 : H.Sm zs) (h3 : H.val (zs.take (i + ys.length)) = H.val (xs.take i) * H.val ys)
    (h5 : Below g w wr) (hm : HMul wr g i zs ys (H.wd xs i) ys.length c w') (hi : i < xs.length) (hv : v = (c : Int)) :
    HProd w g xs ys (i + 1) (w'.setCell ⟨g, i + ys.length, none⟩ (.int .u32 v)) := by
  obtain ⟨ds, d1, d2, d3, d4, d5, d6⟩ := hm
  subst hv
  have hset := d5.set (i + ys.length) c
  rw [set_mid d1 (by omega)] at hset
  refine ⟨_, ?_, ?_, ?_, hset, (h5.trans d6).setCell (Nat.le_refl _) _⟩
  · simp [d1]; omega
  · exact ((h2.take i).append (d2.append (H.Sm.one d3))).append (fun x hx => h2 x (List.mem_of_mem_drop hx))
  · have hl : (zs.take i ++ (ds ++ [c])).length = i + 1 + ys.length := by simp [d1]; omega
    have hli : (zs.take i).length = i := by simp; omega
    have e1 : H.val (zs.take (i + ys.length)) = H.val (zs.take i) + H.Bw ^ i * H.val ((zs.drop i).take ys.length) := by
      rw [List.take_add, H.val_append, hli]
    rw [List.take_left' hl, H.val_append, H.val_append, d1, hli, H.val_take_any, Nat.add_mul, ← h3, e1]
    simp only [H.val, Nat.mul_zero, Nat.add_zero]
    rw [List.take_of_length_le (l := ys) (Nat.le_refl _)] at d4
    rw [d4, Nat.mul_add, ← Nat.mul_assoc]
    omega
theorem HProd.done {w wr : World} {g : Nat} {xs ys : List Nat} (h : HProd w g xs ys xs.length wr) :
    ∃ zs, zs.length = xs.length + ys.length ∧ H.Wd wr (some ⟨g, 0, none⟩) zs ∧ H.val zs = H.val xs * H.val ys ∧ Below g w wr := by
  obtain ⟨zs, h1, h2, h3, h4, h5⟩ := h
  rw [List.take_of_length_le (by omega), List.take_of_length_le (Nat.le_refl _)] at h3
  exact ⟨zs, h1, h4.wd h2, h3, h5⟩

/-- One step's product fits. -/
theorem mul_digit {a b o c : Nat} (ha : a < 4294967296) (hb : b < 4294967296) (ho : o < 4294967296) (hc : c < 4294967296) :
    ∃ p : Nat, p = a * b ∧ p ≤ 18446744065119617025 ∧ IntKind.u64.wrap ((a : Int) * (b : Int)) = (p : Int) := by
  have h : a * b ≤ 4294967295 * 4294967295 := Nat.mul_le_mul (by omega) (by omega)
  exact ⟨a * b, rfl, by omega, by rw [castM]; exact noWrap _ (by omega)⟩

set_option maxRecDepth 100000 in
set_option maxHeartbeats 2000000 in
theorem imul_core (g bx bY : Nat) (n m : Bool) (A B Z : Option Addr) (ca cb nz cz : Nat) (zn : Bool) (xs ys : List Nat) (w : World)
    (x0 : w.cell? ⟨bx, 0, none⟩ = some (.bool n)) (x1 : w.cell? ⟨bx, 1, none⟩ = some (.slice A xs.length ca)) (y0 : w.cell? ⟨bY, 0, none⟩ = some (.bool m)) (y1 : w.cell? ⟨bY, 1, none⟩ = some (.slice B ys.length cb))
    (hz : Hd w g zn Z nz cz) (ha : H.Wd w A xs) (hb : H.Wd w B ys) (hlx : xs.length ≤ 5000000000000) (hly : ys.length ≤ 5000000000000) :
    Calls Try.prog 32 #[.pointer (some ⟨g, 0, none⟩), .pointer (some ⟨bx, 0, none⟩), .pointer (some ⟨bY, 0, none⟩)] w fun e w' => e = .returned (.pointer (some ⟨g, 0, none⟩)) ∧ IsI w' g (sgn (n != m) (H.val xs * H.val ys)) ∧ w.grownBy w' (some g) := by
  have hmk := run_make_row' (P := Try.prog) 49 63 (.int .u32 0) 4 Try.underlying49 Try.info63 rfl .i64 .i64 (xs.length + ys.length) (by omega) (by omega)
  simp only [Int.natCast_add] at hmk
  have HZ := Lib.hid hz
  have HA := Lib.hid ha
  have HB := Lib.hid hb
  have X0 := Lib.hid x0
  have X1 := Lib.hid x1
  have Y0 := Lib.hid y0
  have Y1 := Lib.hid y1
  have lx := block_lt_of_cell x1
  have ly := block_lt_of_cell y1
  simp only at lx ly
  clear hz ha hb
  go_enter Try.func32, Try.ntmps32
  go_wp2
  go_region
  go_wp2
  have HST : Hid (HProd w w.heap.size xs ys 0 (w.alloc (.cells (madeCells #[.int .u32 0] (xs.length + ys.length)) 63)).drew) :=
    ⟨List.replicate (xs.length + ys.length) 0, by simp, fun x hx => by rw [List.eq_of_mem_replicate hx]; exact H.Bw_pos, by simp [H.val, H.val_zeros], H.Bk.made w _, ((Below.refl _ _).alloc (Nat.le_refl _) _).drew⟩
  go_loopw [30] (fun i wr => ∃ k : Nat, k ≤ xs.length ∧ i = .int .i64 k ∧ HProd w w.heap.size xs ys k wr) (fun i _ => xs.length - (intOf i).toNat)
  case atStart => exact ⟨0, Nat.zero_le _, rfl, HST.out⟩
  case round =>
    clear HST hmk x0 x1 y0 y1
    obtain ⟨k, hk, rfl, hR⟩ := hrel
    have HR := Lib.hid hR
    clear hR
    by_cases hlt : k < xs.length
    · obtain ⟨zs, hz1, hz2, hz3, hz4, hz5⟩ := HR.out
      obtain ⟨wo, rfl⟩ : ∃ wo : World, wo = wr := ⟨_, rfl⟩
      obtain ⟨b1, o1, rfl, _, hc1⟩ := (HA.out.below hz5).2 (by omega)
      have hcx := hc1 k hlt
      have y1 := (hz5.cell (p := ⟨bY, 1, none⟩) ly).trans Y1.out
      have bx : H.wd xs k < 4294967296 := H.wd_lt HA.out.1 k
      have HS := Lib.hid (HMul.start (off := k) (ys := ys) (H.wd xs k) hz4)
      have Z1 := Lib.hid hz1
      have Z2 := Lib.hid hz2
      have Z3 := Lib.hid hz3
      have Z5 := Lib.hid hz5
      clear hc1 hz1 hz2 hz3 hz4 hz5 HR
      go_wp2
      go_loopw [10, 40] (fun cv i wr => ∃ j c : Nat, j ≤ ys.length ∧ i = .int .i64 j ∧ cv = .int .u64 c ∧ HMul wo w.heap.size k zs ys (H.wd xs k) j c wr) (fun _ i _ => ys.length - (intOf i).toNat)
      case atStart => exact ⟨0, 0, Nat.zero_le _, rfl, rfl, HS.out⟩
      case round =>
        clear HS y1 hcx
        obtain ⟨j, c, hj, rfl, rfl, hM⟩ := hrel
        have HM := Lib.hid hM
        clear hM
        by_cases hjl : j < ys.length
        · obtain ⟨f1, f2⟩ := HM.out.free (by have := Z1.out; omega)
          have hbel : Below w.heap.size w wr := Z5.out.trans HM.out.choose_spec.2.2.2.2.2
          obtain ⟨b2, o2, rfl, _, hc2⟩ := (HB.out.below hbel).2 (by omega)
          have hcy := hc2 j hjl
          have bY' : H.wd ys j < 4294967296 := H.wd_lt HB.out.1 j
          have bO : H.wd zs (k + j) < 4294967296 := H.wd_lt Z2.out (k + j)
          have bC : c < 4294967296 := HM.out.choose_spec.2.2.1
          obtain ⟨p, hp, hpb, hpw⟩ := mul_digit bx bY' bO bC
          have HP := Lib.hid hp
          have hlen : k + j < xs.length + ys.length := by omega
          clear hc2 hbel hp
          go_wp2_with fail
          go_roundw
          case rel => exact ⟨j + 1, (c + (p + H.wd zs (k + j))) / 4294967296, by omega, by go_num, congrArg (Value.int .u64) (by omega),
                        HM.out.next (d := (c + (p + H.wd zs (k + j))) % 4294967296) (by have := Z1.out; omega) (by unfold H.Bw; omega) (by unfold H.Bw; omega) (by rw [Nat.mul_comm (H.wd ys j), ← HP.out]; unfold H.Bw; omega) (by omega)⟩
          case measure => simp [intOf]; omega
        · obtain rfl : ys.length = j := by omega
          obtain ⟨f1, f2⟩ := HM.out.free (by have := Z1.out; omega)
          have hbel : Below w.heap.size w wr := Z5.out.trans HM.out.choose_spec.2.2.2.2.2
          have y1 := (hbel.cell (p := ⟨bY, 1, none⟩) ly).trans Y1.out
          have bC : c < 4294967296 := HM.out.choose_spec.2.2.1
          clear hbel
          go_wp2_with fail
          go_roundw
          case rel => exact ⟨k + 1, by omega, by go_num, HProd.next Z1.out Z2.out Z3.out Z5.out HM.out hlt rfl⟩
          case measure => simp [intOf]; omega
    · obtain rfl : xs.length = k := by omega
      obtain ⟨zs, hz1, hz2, hz3, hz4⟩ := HR.out.done
      have x0 := (hz4.cell (p := ⟨bx, 0, none⟩) lx).trans X0.out
      have y0 := (hz4.cell (p := ⟨bY, 0, none⟩) ly).trans Y0.out
      have z0 := (HZ.out.below hz4).cell0
      have z1 := (HZ.out.below hz4).cell1
      have f0 := (HZ.out.below hz4).frozen 0
      have f1 := (HZ.out.below hz4).frozen 1
      have C0 := stored_trim (w1 := wr.drew) (n := (!(n == m))) (c := xs.length + ys.length) HZ.out hz4.drew hz2 (by omega) (by omega)
      rw [hz3, hz1] at C0
      have C : Hid (Calls Try.prog 38 #[.pointer (some ⟨g, 0, none⟩)] ((wr.setCell ⟨g, 0, none⟩ (.bool (!(n == m)))).setCell ⟨g, 1, none⟩ (.slice (some ⟨w.heap.size, 0, none⟩) (xs.length + ys.length) (xs.length + ys.length))).drew
        fun e w' => e = .returned (.pointer (some ⟨g, 0, none⟩)) ∧ IsI w' g (sgn (!(n == m)) (H.val xs * H.val ys)) ∧ w.grownBy w' (some g)) := C0
      clear hz1 hz2 hz3 hz4 C0
      go_wp2
      go_region
      go_wp2_with fail
      refine C.out.mono ?_
      rintro e w2 ⟨rfl, h1, h2⟩
      have H1 := Lib.hid h1
      have H2 := Lib.hid h2
      clear h1 h2
      go_wp2
      go_ret
      exact ⟨rfl, H1.out, H2.out⟩

theorem sgn_mul (X Y : Int) : sgn (decide (X < 0) != decide (Y < 0)) (X.natAbs * Y.natAbs) = X * Y := by
  have e : (X.natAbs * Y.natAbs : Nat) = (X * Y).natAbs := (Int.natAbs_mul X Y).symm
  rw [e]
  unfold sgn
  by_cases hx : X < 0 <;> by_cases hy : Y < 0
  · have := Int.mul_pos_of_neg_of_neg hx hy
    simp [hx, hy]; omega
  · have := Int.mul_nonpos_of_nonpos_of_nonneg (Int.le_of_lt hx) (Int.not_lt.1 hy)
    simp [hx, hy]; omega
  · have := Int.mul_nonpos_of_nonneg_of_nonpos (Int.not_lt.1 hx) (Int.le_of_lt hy)
    simp [hx, hy]; omega
  · have := Int.mul_nonneg (Int.not_lt.1 hx) (Int.not_lt.1 hy)
    simp [hx, hy]; omega

/-- Mul: the product. -/
theorem imul_len (g bx bY : Nat) (X Y : Int) (w : World) (hg : IsH w g) (hx : IsI w bx X) (hy : IsI w bY Y) (sx : DL X 5000000000000) (sy : DL Y 5000000000000) :
    Calls Try.prog 32 #[.pointer (some ⟨g, 0, none⟩), .pointer (some ⟨bx, 0, none⟩), .pointer (some ⟨bY, 0, none⟩)] w fun e w' => e = .returned (.pointer (some ⟨g, 0, none⟩)) ∧ IsI w' g (X * Y) ∧ w.grownBy w' (some g) := by
  obtain ⟨zn, Z, nz, cz, hz⟩ := hg
  obtain ⟨A, ca, x0, x1, x2, _⟩ := hx.open_
  obtain ⟨B, cb, y0, y1, y2, _⟩ := hy.open_
  have := imul_core g bx bY _ _ A B Z ca cb nz cz zn _ _ w x0 x1 y0 y1 hz x2 y2 sx.out sy.out
  rwa [H.val_words, H.val_words, sgn_mul] at this
theorem imul_any (g bx bY : Nat) (X Y : Int) (w : World) (hg : IsH w g) (hx : IsI w bx X) (hy : IsI w bY Y) (sx : X.natAbs < Bh ^ 400000) (sy : Y.natAbs < Bh ^ 400000) :
    Calls Try.prog 32 #[.pointer (some ⟨g, 0, none⟩), .pointer (some ⟨bx, 0, none⟩), .pointer (some ⟨bY, 0, none⟩)] w fun e w' => e = .returned (.pointer (some ⟨g, 0, none⟩)) ∧ IsI w' g (X * Y) ∧ w.grownBy w' (some g) :=
  imul_len g bx bY X Y w hg hx hy ((DL.of_pow sx).up (by decide)) ((DL.of_pow sy).up (by decide))
end Go.Proofs.Ytclfimpcacoefaa
