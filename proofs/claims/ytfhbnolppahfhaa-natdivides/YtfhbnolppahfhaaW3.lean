/- math/bits.Mul64, nat.addTimes and nat.Mul. -/
import Derived.Test.YtfhbnolppahfhaaW2
import Derived.Lib.Mul64
import Derived.Laws.Bits64b
namespace Go.Proofs.Ytfhbnolppahfhaa
open Go.RowKit Go.Deep

theorem and32 (a : Nat) (ha : a < 18446744073709551616) : bits .and .u64 (a : Int) 4294967295 = ((a % 4294967296 : Nat) : Int) := by
  rw [show (4294967295 : Int) = ((4294967295 : Nat) : Int) from rfl, bits_and_u64_nat a 4294967295 ha (by omega), show (4294967295 : Nat) = 2 ^ 32 - 1 from rfl, Nat.and_two_pow_sub_one_eq_mod]
theorem shr32 (a : Nat) : (a : Int) / 4294967296 = ((a / 4294967296 : Nat) : Int) := by omega
theorem castM (a b : Nat) : (a : Int) * (b : Int) = ((a * b : Nat) : Int) := (Int.natCast_mul a b).symm
theorem castA (a b : Nat) : (a : Int) + (b : Int) = ((a + b : Nat) : Int) := (Int.natCast_add a b).symm
theorem noWrap (a : Nat) (ha : a < 18446744073709551616) : IntKind.u64.wrap (a : Int) = (a : Int) := by rw [IntKind.wrap_u64]; omega
theorem doWrap (a : Nat) : IntKind.u64.wrap (a : Int) = ((a % 18446744073709551616 : Nat) : Int) := by rw [IntKind.wrap_u64]; omega

/-- The high and the low word of a product. -/
def hiM (x y : Nat) : Nat := x * y / Bw
def loM (x y : Nat) : Nat := x * y % Bw

set_option maxHeartbeats 1000000 in
theorem mul64_any (x y : Nat) (hx : x < 18446744073709551616) (hy : y < 18446744073709551616) (w : World) :
    Calls Try.prog 51 #[.int .u64 (x : Int), .int .u64 (y : Int)] w fun e w' => e = .returned (.tuple #[.int .u64 (hiM x y : Int), .int .u64 (loM x y : Int)]) ∧ w = w' := by
  obtain ⟨p1, p2, p3, p4⟩ := Lib.mul64_hi x y hx hy
  have q1 := Lib.half_mul_le (a := x / 4294967296) (b := y / 4294967296) (by omega) (by omega)
  have q2 := Lib.half_mul_le (a := x / 4294967296) (b := y % 4294967296) (by omega) (by omega)
  have q3 := Lib.half_mul_le (a := x % 4294967296) (b := y / 4294967296) (by omega) (by omega)
  have r1 : x / 4294967296 * (y / 4294967296) < 18446744073709551616 := by omega
  have r2 : x / 4294967296 * (y % 4294967296) < 18446744073709551616 := by omega
  have r3 : x % 4294967296 * (y / 4294967296) < 18446744073709551616 := by omega
  have H4 := Lib.hid p4
  have r5 : x * y / 18446744073709551616 < 18446744073709551616 := Nat.div_lt_of_lt_mul (by
    rcases Nat.eq_zero_or_pos y with h | h
    · subst h; omega
    · exact Nat.lt_of_lt_of_le (Nat.mul_lt_mul_of_pos_right hx h) (Nat.mul_le_mul_left _ (by omega)))
  have r6 : x / 4294967296 * (y / 4294967296) + (x / 4294967296 * (y % 4294967296) + x % 4294967296 * (y % 4294967296) / 4294967296) / 4294967296 < 18446744073709551616 := by
    rw [← p4] at r5; omega
  have r7 := r5
  rw [← p4] at r7
  clear p4 q1 q2 q3 r5
  unfold hiM loM Bw
  go_enter Try.func51, Try.ntmps51
  go_wp2
  simp only [and32 x hx, and32 y hy, shr32, castM, castA, noWrap _ p1, noWrap _ r2, noWrap _ p2, and32 _ p2, noWrap _ r3, noWrap _ p3, noWrap _ r1, noWrap _ r6, noWrap _ r7, doWrap (x * y)]
  rw [H4.out]
  go_ret2
  exact ⟨rfl, rfl⟩

theorem add64_run0 (x y : Nat) (w : World) : (callFunc 31 #[.int .u64 (x : Int), .int .u64 (y : Int), .int .u64 0]).run Try.prog w =
      .ok (.value (.tuple #[.int .u64 (loA x y 0 : Int), .int .u64 (hiA x y 0 : Int)])) w := add64_run x y 0 (by omega) w
/-- One step of addTimes: the new word and the new carry. -/
def dgT (y f z c : Nat) : Nat := loA (loA (loM y f) z 0) c 0
def cyT (y f z c : Nat) : Nat := hiM y f + hiA (loM y f) z 0 + hiA (loA (loM y f) z 0) c 0
theorem dgT_eq (y f z c : Nat) : dgT y f z c + Bw * cyT y f z c = y * f + z + c := by
  unfold dgT cyT
  have e1 : loM y f + Bw * hiM y f = y * f := Nat.mod_add_div _ _
  have e2 : loA (loM y f) z 0 + Bw * hiA (loM y f) z 0 = loM y f + z + 0 := Nat.mod_add_div _ _
  have e3 : loA (loA (loM y f) z 0) c 0 + Bw * hiA (loA (loM y f) z 0) c 0 = loA (loM y f) z 0 + c + 0 := Nat.mod_add_div _ _
  rw [Nat.mul_add, Nat.mul_add]
  omega
theorem dgT_lt (y f z c : Nat) : dgT y f z c < Bw := loA_lt _ _ _
theorem mul_lt_sq {y f : Nat} (hy : y < Bw) (hf : f < Bw) : y * f + 2 * Bw ≤ Bw * Bw + 1 := by
  have h1 : y * f ≤ (Bw - 1) * (Bw - 1) := Nat.mul_le_mul (by omega) (by omega)
  have h2 : (Bw - 1) * (Bw - 1) + 2 * Bw = Bw * Bw + 1 := by decide
  omega
theorem cyT_lt {y f z c : Nat} (hy : y < Bw) (hf : f < Bw) (hz : z < Bw) (hc : c < Bw) : cyT y f z c < Bw := by
  have h := dgT_eq y f z c
  have h2 := mul_lt_sq hy hf
  have : Bw * cyT y f z c < Bw * Bw := by omega
  exact Nat.lt_of_mul_lt_mul_left this
theorem wrap_cy {y f z c : Nat} (hy : y < Bw) (hf : f < Bw) (hz : z < Bw) (hc : c < Bw) :
    IntKind.u64.wrap (IntKind.u64.wrap ((hiM y f : Int) + (hiA (loM y f) z 0 : Int)) + (hiA (loA (loM y f) z 0) c 0 : Int)) = (cyT y f z c : Int) := by
  have h := cyT_lt hy hf hz hc
  unfold cyT at h ⊢
  unfold Bw at h
  rw [castA, noWrap _ (by omega), castA, noWrap _ (by omega)]

/-- What stands in the loop of addTimes: k words are done, c is carried. -/
def MulRel (w : World) (g off : Nat) (zs ys : List Nat) (f k c : Nat) (wr : World) : Prop :=
  ∃ ds, ds.length = k ∧ Sm ds ∧ c < Bw ∧ val ds + Bw ^ k * c = val ((zs.drop off).take k) + f * val (ys.take k) ∧ Bk wr g (zs.take off ++ ds ++ zs.drop (off + k)) ∧ Below g w wr

theorem wd_drop (zs : List Nat) (off k : Nat) : wd (zs.drop off) k = wd zs (off + k) := by
  unfold wd; rw [List.getD_eq_getElem?_getD, List.getD_eq_getElem?_getD, List.getElem?_drop]
theorem wd_mid {zs ds : List Nat} {off k : Nat} (h1 : ds.length = k) (ho : off ≤ zs.length) : wd (zs.take off ++ ds ++ zs.drop (off + k)) (off + k) = wd zs (off + k) := by
  have hl : (zs.take off ++ ds).length = off + k := by simp [h1]; omega
  unfold wd
  rw [List.getD_eq_getElem?_getD, List.getD_eq_getElem?_getD, List.getElem?_append_right (by omega), hl, Nat.sub_self, List.getElem?_drop]
  simp
theorem set_mid {zs ds : List Nat} {off k x : Nat} (h1 : ds.length = k) (ho : off + k < zs.length) :
    (zs.take off ++ ds ++ zs.drop (off + k)).set (off + k) x = zs.take off ++ (ds ++ [x]) ++ zs.drop (off + (k + 1)) := by
  have hl : (zs.take off ++ ds).length = off + k := by simp [h1]; omega
  rw [List.set_append_right _ _ (by omega), hl, Nat.sub_self, List.drop_eq_getElem_cons ho]
  simp [Nat.add_assoc]
theorem MulRel.start {w : World} {g off : Nat} {zs ys : List Nat} (f : Nat) (h : Bk w g zs) : MulRel w g off zs ys f 0 0 w :=
  ⟨[], rfl, Sm.nil, Bw_pos, by simp [val], by simpa using h, Below.refl _ _⟩
theorem MulRel.next {w wr : World} {g off : Nat} {zs ys : List Nat} {f k c : Nat} (h : MulRel w g off zs ys f k c wr) (hz : Sm zs) (hy : Sm ys) (hf : f < Bw) (ho : off + k < zs.length) :
    MulRel w g off zs ys f (k + 1) (cyT (wd ys k) f (wd zs (off + k)) c) (wr.setCell ⟨g, off + k, none⟩ (.int .u64 (dgT (wd ys k) f (wd zs (off + k)) c : Int))) := by
  obtain ⟨ds, h1, h2, h3, h4, h5, h6⟩ := h
  refine ⟨ds ++ [dgT (wd ys k) f (wd zs (off + k)) c], by simp [h1], h2.append (Sm.one (dgT_lt _ _ _ _)), cyT_lt (wd_lt hy k) hf (wd_lt hz _) h3, ?_, ?_, h6.setCell (Nat.le_refl _) _⟩
  · rw [val_append, h1, val_take_any, val_take_any, wd_drop]
    simp only [val, Nat.mul_zero, Nat.add_zero]
    have e := dgT_eq (wd ys k) f (wd zs (off + k)) c
    have e2 : Bw ^ k * dgT (wd ys k) f (wd zs (off + k)) c + Bw ^ (k + 1) * cyT (wd ys k) f (wd zs (off + k)) c = Bw ^ k * (wd ys k * f) + Bw ^ k * wd zs (off + k) + Bw ^ k * c := by
      rw [Nat.pow_succ, Nat.mul_assoc, ← Nat.mul_add, e, Nat.mul_add, Nat.mul_add]
    have e3 : f * (val (ys.take k) + Bw ^ k * wd ys k) = f * val (ys.take k) + Bw ^ k * (wd ys k * f) := by
      rw [Nat.mul_add, Nat.mul_left_comm f, Nat.mul_comm f (wd ys k)]
    omega
  · have := h5.set (off + k) (dgT (wd ys k) f (wd zs (off + k)) c)
    rw [set_mid h1 ho] at this
    exact this
theorem MulRel.free {w wr : World} {g off : Nat} {zs ys : List Nat} {f k c : Nat} (h : MulRel w g off zs ys f k c wr) (ho : off + k < zs.length) :
    wr.cell? ⟨g, off + k, none⟩ = some (.int .u64 (wd zs (off + k) : Int)) ∧ wr.frozen? ⟨g, off + k, none⟩ = false := by
  obtain ⟨ds, h1, h2, h3, h4, h5, h6⟩ := h
  refine ⟨?_, h5.frozen _⟩
  rw [h5.cell (by simp [h1]; omega), wd_mid h1 (by omega)]

set_option maxHeartbeats 1000000 in
theorem addTimes_any (B : Option Addr) (cs cb g off f : Nat) (zs ys : List Nat) (w0 w : World) (hb : Wd w0 B ys) (h0 : Below w0.heap.size w0 w) (hg : w0.heap.size ≤ g) (hz : Bk w g zs) (hs : Sm zs) (hf : f < Bw)
    (ho : off + ys.length ≤ zs.length) (hl : zs.length ≤ 1000000) :
    Calls Try.prog 36 #[.slice (some ⟨g, off, none⟩) ys.length cs, .slice B ys.length cb, .int .u64 (f : Int)] w fun e w' => ∃ c : Nat, e = .returned (.int .u64 (c : Int)) ∧ MulRel w g off zs ys f ys.length c w' := by
  have HST := Lib.hid (MulRel.start (off := off) (ys := ys) f hz)
  have HB := Lib.hid hb
  have H0 := Lib.hid h0
  have SZ := Lib.hid hs
  clear hb h0 hz hs
  go_enter Try.func36, Try.ntmps36
  go_wp2
  go_loopw [7, 15] (fun cv i wr => ∃ k c : Nat, k ≤ ys.length ∧ i = .int .i64 k ∧ cv = .int .u64 c ∧ MulRel w g off zs ys f k c wr) (fun _ i _ => ys.length - (intOf i).toNat)
  case atStart => exact ⟨0, 0, Nat.zero_le _, rfl, rfl, HST.out⟩
  case round =>
    obtain ⟨k, c, hk, rfl, rfl, hR⟩ := hrel
    have HR := Lib.hid hR
    clear hR
    by_cases hlt : k < ys.length
    · obtain ⟨hc1, hc2⟩ := HR.out.free (by omega)
      obtain ⟨_, _, _, hcle, _, _, hbel⟩ := HR.out
      have HW : Wd wr B ys := HB.out.below (H0.out.trans (hbel.mono hg))
      obtain ⟨b, ofb, rfl, _, hcb⟩ := HW.2 (by omega)
      have hcy := hcb k hlt
      have hy := wd_lt HB.out.1 k
      have hzz := wd_lt SZ.out (off + k)
      have a1 := add64_run0 (loM (wd ys k) f) (wd zs (off + k))
      have a2 := add64_run0 (loA (loM (wd ys k) f) (wd zs (off + k)) 0) c
      have C := Lib.hid (mul64_any (wd ys k) f (by unfold Bw at hy; exact hy) (by unfold Bw at hf; exact hf) wr)
      have WC := Lib.hid (wrap_cy hy hf hzz hcle)
      clear hcb HW hbel hy hzz
      go_wp2_with fail
      refine C.out.mono ?_
      rintro e w' ⟨rfl, rfl⟩
      go_wp2_with fail
      go_roundw
      case rel => exact ⟨k + 1, _, by omega, by go_num, by rw [WC.out], HR.out.next SZ.out HB.out.1 hf (by omega)⟩
      case measure => simp [intOf]; omega
    · obtain rfl : ys.length = k := by omega
      go_wp2
      go_ret
      exact ⟨c, rfl, HR.out⟩

/-- What stands in the loop of Mul: i words of the first are done. -/
def ProdRel (w : World) (xs ys : List Nat) (i : Nat) (wr : World) : Prop :=
  ∃ zs, zs.length = xs.length + ys.length ∧ Sm zs ∧ val (zs.take (i + ys.length)) = val (xs.take i) * val ys ∧ Bk wr w.heap.size zs ∧ Below w.heap.size w wr

theorem Sm.zeros (n : Nat) : Sm (List.replicate n 0) := fun x hx => by
  have := List.eq_of_mem_replicate hx
  rw [this]; exact Bw_pos
theorem ProdRel.start (w : World) (xs ys : List Nat) : ProdRel w xs ys 0 (w.alloc (.cells (madeCells #[.int .u64 0] (xs.length + ys.length)) 23)) :=
  ⟨List.replicate (xs.length + ys.length) 0, by simp, Sm.zeros _, by simp [val, val_zeros], Bk.made w _, (Below.refl _ _).alloc (Nat.le_refl _) _⟩
theorem take_of_mid {zs ds : List Nat} {i m c : Nat} (hd : ds.length = m) (hi : i + m < zs.length) :
    (zs.take i ++ ds ++ zs.drop (i + m)).set (i + m) c = zs.take i ++ (ds ++ [c]) ++ zs.drop (i + (m + 1)) := set_mid hd hi
theorem ProdRel.next {w wr w' : World} {xs ys zs : List Nat} {i c : Nat} (h1 : zs.length = xs.length + ys.length) (h2 : Sm zs) (h3 : val (zs.take (i + ys.length)) = val (xs.take i) * val ys)
    (h5 : Below w.heap.size w wr) (hm : MulRel wr w.heap.size i zs ys (wd xs i) ys.length c w') (hi : i < xs.length) :
    ProdRel w xs ys (i + 1) (w'.setCell ⟨w.heap.size, i + ys.length, none⟩ (.int .u64 (c : Int))) := by
  obtain ⟨ds, d1, d2, d3, d4, d5, d6⟩ := hm
  have hset := d5.set (i + ys.length) c
  rw [take_of_mid d1 (by omega)] at hset
  refine ⟨_, ?_, ?_, ?_, hset, (h5.trans d6).setCell (Nat.le_refl _) _⟩
  · simp [d1]; omega
  · exact ((h2.take i).append (d2.append (Sm.one d3))).append (fun x hx => h2 x (List.mem_of_mem_drop hx))
  · have hl : (zs.take i ++ (ds ++ [c])).length = i + 1 + ys.length := by simp [d1]; omega
    have hli : (zs.take i).length = i := by simp; omega
    have e1 : val (zs.take (i + ys.length)) = val (zs.take i) + Bw ^ i * val ((zs.drop i).take ys.length) := by
      rw [List.take_add, val_append, hli]
    rw [List.take_left' hl, val_append, val_append, d1, hli, val_take_any, Nat.add_mul, ← h3, e1]
    simp only [val, Nat.mul_zero, Nat.add_zero]
    rw [List.take_of_length_le (l := ys) (Nat.le_refl _)] at d4
    rw [d4, Nat.mul_add, ← Nat.mul_assoc]
    omega
theorem ProdRel.done {w wr : World} {xs ys : List Nat} (h : ProdRel w xs ys xs.length wr) :
    ∃ zs, zs.length = xs.length + ys.length ∧ Wd wr (some ⟨w.heap.size, 0, none⟩) zs ∧ val zs = val xs * val ys ∧ Below w.heap.size w wr := by
  obtain ⟨zs, h1, h2, h3, h4, h5⟩ := h
  rw [List.take_of_length_le (by omega), List.take_of_length_le (Nat.le_refl _)] at h3
  exact ⟨zs, h1, h4.wd h2, h3, h5⟩

set_option maxHeartbeats 1000000 in
theorem mul_any (A B : Option Addr) (ca cb : Nat) (xs ys : List Nat) (w : World) (ha : Wd w A xs) (hb : Wd w B ys) (hra : rt xs = true) (hrb : rt ys = true) :
    Calls Try.prog 12 #[.slice A xs.length ca, .slice B ys.length cb] w fun e w' => ∃ R c, e = .returned (.tuple #[.slice R (fitL (val xs * val ys)).length c, .int .i64 (fitE (val xs * val ys))]) ∧
      Wd w' R (fitL (val xs * val ys)) ∧ (fitL (val xs * val ys)).length ≤ c ∧ Below w.heap.size w w' := by
  have hla : xs.length ≤ 64 := ((rt_iff _).1 hra).1
  have hlb : ys.length ≤ 64 := ((rt_iff _).1 hrb).1
  have hmk := run_make_row' (P := Try.prog) 22 23 (.int .u64 0) 8 Try.underlying22 Try.info23 rfl .i64 .i64 (xs.length + ys.length) (by omega) (by omega)
  simp only [Int.natCast_add] at hmk
  have CA := Lib.hid (right_any A ca xs w ha (by omega))
  have CB := Lib.hid (right_any B cb ys w hb (by omega))
  rw [hra] at CA
  rw [hrb] at CB
  have HA := Lib.hid ha
  have HB := Lib.hid hb
  clear ha hb hra hrb
  go_enter Try.func12, Try.ntmps12
  go_wp2_with fail
  refine CA.out.mono ?_
  rintro e w' ⟨rfl, rfl⟩
  go_wp2_with fail
  refine CB.out.mono ?_
  rintro e w' ⟨rfl, rfl⟩
  go_wp2_with fail
  go_loopw [25] (fun i wr => ∃ k : Nat, k ≤ xs.length ∧ i = .int .i64 k ∧ ProdRel w xs ys k wr) (fun i _ => xs.length - (intOf i).toNat)
  case atStart => exact ⟨0, Nat.zero_le _, rfl, ProdRel.start w xs ys⟩
  case round =>
    obtain ⟨k, hk, rfl, hR⟩ := hrel
    have HR := Lib.hid hR
    clear hR
    by_cases hlt : k < xs.length
    · obtain ⟨zs, hz1, hz2, hz3, hz4, hz5⟩ := HR.out
      have HW : Wd wr A xs := HA.out.below hz5
      obtain ⟨b, ofb, rfl, _, hcb⟩ := HW.2 (by omega)
      have hcx := hcb k hlt
      have C := Lib.hid (addTimes_any B (xs.length + ys.length - k) cb w.heap.size k (wd xs k) zs ys w wr HB.out hz5 (Nat.le_refl _) hz4 hz2 (wd_lt HA.out.1 k) (by omega) (by omega))
      have Z1 := Lib.hid hz1
      have Z3 := Lib.hid hz3
      have Z4 := Lib.hid hz4
      have Z5 := Lib.hid hz5
      clear hcb HW hz1 hz3 hz4 hz5
      go_wp2_with fail
      refine C.out.mono ?_
      rintro e w' ⟨c, rfl, hM⟩
      obtain ⟨hf1, hf2⟩ := hM.free (by have := Z1.out; omega)
      have HM := Lib.hid hM
      clear hM
      go_wp2_with fail
      go_roundw
      case rel => exact ⟨k + 1, by omega, by go_num, ProdRel.next Z1.out hz2 Z3.out Z5.out HM.out hlt⟩
      case measure => simp [intOf]; omega
    · obtain rfl : xs.length = k := by omega
      obtain ⟨zs, hz1, hz2, hz3, hz4⟩ := HR.out.done
      have C := Lib.hid (fit_any (some ⟨w.heap.size, 0, none⟩) (xs.length + ys.length) zs _ hz2 (by omega) (by omega))
      rw [hz1, hz3] at C
      have HBl := Lib.hid hz4
      clear hz1 hz2 hz3 hz4
      go_wp2_with fail
      refine C.out.mono ?_
      rintro e w' ⟨rfl, R, c, rfl, hW, hle⟩
      go_wp2
      go_ret2
      exact ⟨R, c, rfl, hW, hle, HBl.out⟩

set_option maxHeartbeats 1000000 in
theorem mul_bad (A B : Option Addr) (ca cb : Nat) (xs ys : List Nat) (w : World) (ha : Wd w A xs) (hb : Wd w B ys) (hla : xs.length ≤ 9223372036854775807) (hlb : ys.length ≤ 9223372036854775807) (h : (rt xs && rt ys) = false) :
    Calls Try.prog 12 #[.slice A xs.length ca, .slice B ys.length cb] w fun e w' => e = .returned (.tuple #[.slice none 0 0, .int .i64 1]) ∧ w = w' := by
  have CA := Lib.hid (right_any A ca xs w ha hla)
  have CB := Lib.hid (right_any B cb ys w hb hlb)
  clear ha hb
  by_cases h1 : rt xs = true
  · have h2 : rt ys = false := by simpa [h1] using h
    rw [h1] at CA
    rw [h2] at CB
    clear h h1 h2
    go_enter Try.func12, Try.ntmps12
    go_wp2_with fail
    refine CA.out.mono ?_
    rintro e w' ⟨rfl, rfl⟩
    go_wp2_with fail
    refine CB.out.mono ?_
    rintro e w' ⟨rfl, rfl⟩
    go_wp2
    go_ret2
    exact ⟨rfl, rfl⟩
  · have h2 : rt xs = false := by simpa using h1
    rw [h2] at CA
    clear h h1 h2
    go_enter Try.func12, Try.ntmps12
    go_wp2_with fail
    refine CA.out.mono ?_
    rintro e w' ⟨rfl, rfl⟩
    go_wp2
    go_ret2
    exact ⟨rfl, rfl⟩
end Go.Proofs.Ytfhbnolppahfhaa
