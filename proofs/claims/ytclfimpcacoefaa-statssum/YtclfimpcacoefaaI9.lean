/- lotdrawerref.shiftLeft and Int.Lsh. -/
import Derived.Test.YtclfimpcacoefaaI8
namespace Go.Proofs.Ytclfimpcacoefaa
open Go.RowKit Go.Deep

theorem wraps_u32 (n : Int) (h0 : 0 ≤ n) (h1 : n < 2 ^ 32) : IntKind.u32.wrap n = n := by rw [IntKind.wrap_u32]; omega
theorem or32 {t low r m : Nat} (ht : t < 2 ^ r) (hl : low = 2 ^ r * m) (hlow : low < 4294967296) (ht2 : t < 4294967296) : bits .or .u32 (t : Int) (low : Int) = ((t + low : Nat) : Int) := by
  rw [(bits_nat .u32 32 (by decide) wraps_u32 t low (by omega) (by omega)).2, Nat.or_comm, hl, ← Nat.two_pow_add_eq_or_of_lt ht m, Nat.add_comm]

/-- One digit, moved: what goes into the place, what goes into the next. -/
theorem shl_digit {a r t : Nat} (ha : a < 4294967296) (hr : r < 32) (ht : t < 2 ^ r) :
    ∃ v : Nat, v = a * 2 ^ r ∧ IntKind.u64.wrap ((a : Int) * 2 ^ r) = (v : Int) ∧ bits .or .u32 (t : Int) ((v : Int) % 4294967296) = ((t + v % 4294967296 : Nat) : Int) ∧ t + v % 4294967296 < 4294967296 ∧ v / 4294967296 < 2 ^ r ∧ v < 18446744073709551616 := by
  have hB : 2 ^ (32 - r) * 2 ^ r = 4294967296 := by rw [← Nat.pow_add, show 32 - r + r = 32 by omega]
  have hp : 0 < 2 ^ r := Nat.two_pow_pos r
  have hr32 : 2 ^ r ≤ 4294967296 := by
    have : (2 : Nat) ^ r ≤ 2 ^ 32 := Nat.pow_le_pow_right (by omega) (by omega)
    simpa using this
  have hv1 : a * 2 ^ r < 4294967296 * 2 ^ r := Nat.mul_lt_mul_of_pos_right ha hp
  have hv2 : 4294967296 * 2 ^ r ≤ 4294967296 * 4294967296 := Nat.mul_le_mul_left _ hr32
  have hm : a * 2 ^ r % 4294967296 = 2 ^ r * (a % 2 ^ (32 - r)) := by
    rw [← hB, Nat.mul_mod_mul_right, Nat.mul_comm]
  have hm2 : 2 ^ r * (a % 2 ^ (32 - r)) + 2 ^ r ≤ 4294967296 := by
    have h1 : a % 2 ^ (32 - r) + 1 ≤ 2 ^ (32 - r) := Nat.mod_lt _ (Nat.two_pow_pos _)
    have h2 : 2 ^ r * (a % 2 ^ (32 - r) + 1) ≤ 2 ^ r * 2 ^ (32 - r) := Nat.mul_le_mul_left _ h1
    rw [Nat.mul_comm (2 ^ r) (2 ^ (32 - r)), hB, Nat.mul_add] at h2
    omega
  refine ⟨a * 2 ^ r, rfl, ?_, ?_, by rw [hm]; omega, Nat.div_lt_of_lt_mul hv1, by omega⟩
  · rw [show ((2 : Int) ^ r) = ((2 ^ r : Nat) : Int) from by simp, castM]
    exact noWrap _ (by omega)
  · rw [show ((a * 2 ^ r : Nat) : Int) % 4294967296 = ((a * 2 ^ r % 4294967296 : Nat) : Int) by omega]
    exact or32 ht hm (Nat.mod_lt _ (by omega)) (by omega)

/-- What stands in the loop of shiftLeft: k digits are moved, t stands in the next place. -/
def Sl (w : World) (q r : Nat) (xs : List Nat) (k t : Nat) (wr : World) : Prop :=
  ∃ es, es.length = k ∧ H.Sm es ∧ t < 2 ^ r ∧ H.val es + H.Bw ^ k * t = H.val (xs.take k) * 2 ^ r ∧ H.Bk wr w.heap.size (List.replicate q 0 ++ es ++ (t :: List.replicate (xs.length - k) 0)) ∧ Below w.heap.size w wr
theorem Sl.start (w : World) (q r : Nat) (xs : List Nat) : Sl w q r xs 0 0 (w.alloc (.cells (madeCells #[.int .u32 0] (xs.length + q + 1)) 63)) := by
  refine ⟨[], rfl, H.Sm.nil, Nat.two_pow_pos r, by simp [H.val], ?_, (Below.refl _ _).alloc (Nat.le_refl _) _⟩
  have := H.Bk.made w (xs.length + q + 1)
  rw [show xs.length + q + 1 = q + (xs.length + 1) by omega, ← List.replicate_append_replicate, List.replicate_succ] at this
  simp only [List.append_nil, Nat.sub_zero]
  rw [show xs.length + q + 1 = q + (xs.length + 1) by omega]
  exact this
theorem sl_at1 {q k t m : Nat} {es : List Nat} (hk : es.length = k) : H.wd (List.replicate q 0 ++ es ++ (t :: List.replicate m 0)) (q + k) = t := by
  unfold H.wd
  rw [List.getD_eq_getElem?_getD, List.getElem?_append_right (by simp [hk])]
  simp [hk]
theorem sl_set {q k t m x y : Nat} {es : List Nat} (hk : es.length = k) :
    ((List.replicate q 0 ++ es ++ (t :: List.replicate (m + 1) 0)).set (q + k) x).set (q + k + 1) y = List.replicate q 0 ++ (es ++ [x]) ++ (y :: List.replicate m 0) := by
  rw [List.set_append_right _ _ (by simp [hk]), List.set_append_right _ _ (by simp [hk])]
  simp [hk, List.replicate_succ]
theorem sl_at2 {q k t m x : Nat} {es : List Nat} (hk : es.length = k) : H.wd ((List.replicate q 0 ++ es ++ (t :: List.replicate (m + 1) 0)).set (q + k) x) (q + k + 1) = 0 := by
  rw [List.set_append_right _ _ (by simp [hk])]
  unfold H.wd
  rw [List.getD_eq_getElem?_getD, List.getElem?_append_right (by simp [hk])]
  simp [hk, List.replicate_succ]
theorem Sl.next {w wr : World} {q r : Nat} {xs : List Nat} {k t v : Nat} {X Y : Int} (h : Sl w q r xs k t wr) (hk : k < xs.length) (hv : v = H.wd xs k * 2 ^ r) (h1 : t + v % 4294967296 < 4294967296) (h2 : v / 4294967296 < 2 ^ r)
    (hX : X = ((t + v % 4294967296 : Nat) : Int)) (hY : Y = ((v / 4294967296 : Nat) : Int)) :
    Sl w q r xs (k + 1) (v / 4294967296) ((wr.setCell ⟨w.heap.size, q + k, none⟩ (.int .u32 X)).setCell ⟨w.heap.size, q + k + 1, none⟩ (.int .u32 Y)) := by
  obtain ⟨es, e1, e2, e3, e4, e5, e6⟩ := h
  subst hX hY
  refine ⟨es ++ [t + v % 4294967296], by simp [e1], e2.append (H.Sm.one (by unfold H.Bw; omega)), h2, ?_, ?_, (e6.setCell (Nat.le_refl _) _).setCell (Nat.le_refl _) _⟩
  · rw [H.val_append, e1, H.val_take_any, Nat.add_mul, ← e4]
    simp only [H.val, Nat.mul_zero, Nat.add_zero]
    have e : v % 4294967296 + H.Bw * (v / 4294967296) = H.wd xs k * 2 ^ r := by rw [← hv]; exact Nat.mod_add_div _ _
    have e' : H.Bw ^ k * (v % 4294967296) + H.Bw ^ (k + 1) * (v / 4294967296) = H.Bw ^ k * H.wd xs k * 2 ^ r := by
      rw [Nat.pow_succ, Nat.mul_assoc, ← Nat.mul_add, e, Nat.mul_assoc]
    rw [Nat.mul_add]
    omega
  · have := (e5.set (q + k) (t + v % 4294967296)).set (q + k + 1) (v / 4294967296)
    rw [show xs.length - k = (xs.length - (k + 1)) + 1 by omega, sl_set e1] at this
    exact this
theorem Sl.free {w wr : World} {q r : Nat} {xs : List Nat} {k t : Nat} (h : Sl w q r xs k t wr) (hk : k < xs.length) (x : Nat) :
    wr.cell? ⟨w.heap.size, q + k, none⟩ = some (.int .u32 (t : Int)) ∧ wr.frozen? ⟨w.heap.size, q + k, none⟩ = false ∧
      (wr.setCell ⟨w.heap.size, q + k, none⟩ (.int .u32 (x : Int))).cell? ⟨w.heap.size, q + k + 1, none⟩ = some (.int .u32 0) ∧ (wr.setCell ⟨w.heap.size, q + k, none⟩ (.int .u32 (x : Int))).frozen? ⟨w.heap.size, q + k + 1, none⟩ = false ∧
      wr.cell? ⟨w.heap.size, q + k + 1, none⟩ = some (.int .u32 0) ∧ wr.frozen? ⟨w.heap.size, q + k + 1, none⟩ = false := by
  obtain ⟨es, e1, e2, e3, e4, e5, e6⟩ := h
  have s := e5.set (q + k) x
  refine ⟨?_, e5.frozen _, ?_, s.frozen _, ?_, e5.frozen _⟩
  · rw [e5.cell (by simp [e1]), sl_at1 e1]
  · rw [s.cell (by simp [e1]; omega), show xs.length - k = (xs.length - (k + 1)) + 1 by omega, sl_at2 e1]; rfl
  · rw [e5.cell (by simp [e1]; omega)]
    have : H.wd (List.replicate q 0 ++ es ++ t :: List.replicate (xs.length - k) 0) (q + k + 1) = 0 := by
      unfold H.wd
      rw [List.getD_eq_getElem?_getD, List.getElem?_append_right (by simp [e1])]
      simp only [List.length_append, List.length_replicate, e1, show q + k + 1 - (q + k) = 0 + 1 by omega, List.getElem?_cons_succ, List.getElem?_replicate]
      split <;> rfl
    rw [this]; rfl
theorem Sl.done {w wr : World} {q r : Nat} {xs : List Nat} {t : Nat} (h : Sl w q r xs xs.length t wr) (hr : r < 32) :
    ∃ zs, zs.length = xs.length + q + 1 ∧ H.Wd wr (some ⟨w.heap.size, 0, none⟩) zs ∧ H.val zs = H.val xs * 2 ^ (32 * q + r) ∧ Below w.heap.size w wr := by
  obtain ⟨es, e1, e2, e3, e4, e5, e6⟩ := h
  rw [Nat.sub_self, List.replicate_zero] at e5
  rw [List.take_of_length_le (Nat.le_refl _)] at e4
  have hz : H.Sm (List.replicate q 0) := fun x hx => by rw [List.eq_of_mem_replicate hx]; exact H.Bw_pos
  have ht : t < H.Bw := by
    have h1 : (2 : Nat) ^ r ≤ 2 ^ 31 := Nat.pow_le_pow_right (by omega) (by omega)
    unfold H.Bw
    omega
  refine ⟨List.replicate q 0 ++ es ++ [t], by simp [e1]; omega, e5.wd ((hz.append e2).append (H.Sm.one ht)), ?_, e6⟩
  · rw [H.val_append, H.val_append, H.val_zeros]
    simp only [List.length_append, List.length_replicate, e1, H.val, Nat.mul_zero, Nat.add_zero, Nat.zero_add]
    rw [Nat.pow_add, Nat.mul_assoc, ← Nat.mul_add, e4, Nat.pow_add, Nat.pow_mul]
    rw [show (2 : Nat) ^ 32 = H.Bw from rfl, ← Nat.mul_assoc, Nat.mul_comm (H.Bw ^ q), Nat.mul_assoc]

set_option maxRecDepth 100000 in
set_option maxHeartbeats 2000000 in
theorem shiftLeft_any (A : Option Addr) (ca n q r : Nat) (xs : List Nat) (w : World) (ha : H.Wd w A xs) (hx : xs.length ≤ 5000000000000) (hn : Hid (n = 32 * q + r)) (hr : r < 32) (hq : q ≤ 5000000000000) :
    Calls Try.prog 37 #[.slice A xs.length ca, .int .i64 (n : Int)] w fun e w' => ∃ R c zs, e = .returned (.slice R zs.length c) ∧ H.Wd w' R zs ∧ zs.length = xs.length + q + 1 ∧ zs.length ≤ c ∧ H.val zs = H.val xs * 2 ^ n ∧ Below w.heap.size w w' := by
  have hnq : (n : Int) / 32 = (q : Int) := by have := hn.out; omega
  have hnr : (n : Int) % 32 = (r : Int) := by have := hn.out; omega
  have hmk := run_make_row' (P := Try.prog) 49 63 (.int .u32 0) 4 Try.underlying49 Try.info63 rfl .i64 .i64 (xs.length + q + 1) (by omega) (by omega)
  simp only [Int.natCast_add, Int.cast_ofNat_Int] at hmk
  have HA := Lib.hid ha
  clear ha
  go_enter Try.func37, Try.ntmps37
  go_wp2
  go_loopw [18] (fun i wr => ∃ k t : Nat, k ≤ xs.length ∧ i = .int .i64 k ∧ Sl w q r xs k t wr) (fun i _ => xs.length - (intOf i).toNat)
  case atStart => exact ⟨0, 0, Nat.zero_le _, rfl, Sl.start w q r xs⟩
  case round =>
    clear hmk
    obtain ⟨k, t, hk, rfl, hS⟩ := hrel
    have HS := Lib.hid hS
    clear hS
    by_cases hlt : k < xs.length
    · obtain ⟨_, _, _, ht, _, _, hbel⟩ := HS.out
      have ba : H.wd xs k < 4294967296 := H.wd_lt HA.out.1 k
      obtain ⟨v, v1, v2, v3, v4, v5, v6⟩ := shl_digit ba hr ht
      obtain ⟨c1, c2, c3, c4, c5, c6⟩ := HS.out.free hlt (t + v % 4294967296)
      rw [Nat.add_comm q k] at c1 c2 c3 c4 c5 c6
      obtain ⟨b1, o1, rfl, _, hc1⟩ := (HA.out.below hbel).2 (by omega)
      have e1 := hc1 k hlt
      have V1 := Lib.hid v1
      have V4 := Lib.hid v4
      have V5 := Lib.hid v5
      have hlen : k + q < xs.length + q + 1 := by omega
      have hlen2 : k + q + 1 < xs.length + q + 1 := by omega
      clear hc1 hbel v1 v4 v5 ht
      go_wp2_with fail
      go_roundw
      case rel =>
        have N := HS.out.next hlt V1.out V4.out V5.out (X := (t : Int) + (v : Int) % 4294967296) (Y := (v : Int) / 4294967296) (by omega) (by omega)
        rw [Nat.add_comm q k] at N
        exact ⟨k + 1, _, by omega, by go_num, N⟩
      case measure => simp [intOf]; omega
    · obtain rfl : xs.length = k := by omega
      obtain ⟨zs, z1, z2, z3, z4⟩ := HS.out.done hr
      have Z1 := Lib.hid z1
      have Z2 := Lib.hid z2
      have Z3 := Lib.hid z3
      have Z4 := Lib.hid z4
      clear z1 z2 z3 z4
      go_wp2
      go_ret
      exact ⟨some ⟨w.heap.size, 0, none⟩, xs.length + q + 1, zs, by rw [Z1.out]; rfl, Z2.out, Z1.out, by rw [Z1.out]; exact Nat.le_refl _, by rw [hn.out]; exact Z3.out, Z4.out⟩

end Go.Proofs.Ytclfimpcacoefaa
