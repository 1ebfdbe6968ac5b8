/- math/bits.Div64 at every high word below the divisor; nat.Div. -/
import Derived.Test.YtfhbnolppahfhaaW7
namespace Go.Proofs.Ytfhbnolppahfhaa
open Go.RowKit Go.Deep

set_option maxRecDepth 100000 in
set_option maxHeartbeats 400000 in
theorem div64_low (lo y : Int) (w : World) (h1 : 0 < y) (h2 : y ≤ 18446744073709551615) (h3 : 0 ≤ lo) (h4 : lo ≤ 18446744073709551615) :
    Calls Try.prog 44 #[.int .u64 0, .int .u64 lo, .int .u64 y] w fun e w' => e = .returned (.tuple #[.int .u64 (lo / y), .int .u64 (lo % y)]) ∧ Below w.heap.size w w' := by
  have hy0 : (y == 0) = false := by rw [beq_eq_false_iff_ne]; omega
  go_enter Try.func44, Try.ntmps44
  go_wp2
  go_quiet (fail)
  go_wp2
  go_ret2
  exact ⟨rfl, below_drewN (Below.refl _ _) _⟩

theorem div64_any (hi lo y : Nat) (w : World) (h1 : hi < y) (h2 : y < Bw) (h3 : lo < Bw) :
    Calls Try.prog 44 #[.int .u64 (hi : Int), .int .u64 (lo : Int), .int .u64 (y : Int)] w fun e w' => e = .returned (.tuple #[.int .u64 (quW hi lo y : Int), .int .u64 (reW hi lo y : Int)]) ∧ Below w.heap.size w w' := by
  unfold Bw at h2 h3
  rcases Nat.eq_zero_or_pos hi with rfl | h0
  · refine (div64_low (lo : Int) (y : Int) w (by omega) (by omega) (by omega) (by omega)).mono ?_
    rintro e w' ⟨rfl, hb⟩
    refine ⟨retT2 ?_ ?_, hb⟩
    · unfold quW; rw [Nat.zero_mul, Nat.zero_add]; exact (Int.natCast_ediv _ _).symm
    · unfold reW; rw [Nat.zero_mul, Nat.zero_add]; exact (Int.natCast_emod _ _).symm
  · refine (div64_high hi lo y w h0 h1 h2 h3).mono ?_
    rintro e w' ⟨rfl, rfl⟩
    exact ⟨rfl, Below.refl _ _⟩

theorem quW_eq (r x y : Nat) : quW r x y * y + reW r x y = r * Bw + x := Nat.div_add_mod' _ _
theorem quW_lt {r x y : Nat} (h : r < y) (hx : x < Bw) : quW r x y < Bw := by
  unfold quW
  refine Nat.div_lt_of_lt_mul ?_
  have : (r + 1) * Bw ≤ y * Bw := Nat.mul_le_mul_right _ h
  rw [Nat.succ_mul] at this
  omega

/-- What stands in the loop of Div: the words from place k on are divided. -/
def DivRel (w : World) (xs : List Nat) (b k r : Nat) (wr : World) : Prop :=
  ∃ ds, ds.length = xs.length - k ∧ k ≤ xs.length ∧ Sm ds ∧ r < b ∧ val ds * b + r = val (xs.drop k) ∧ Bk wr w.heap.size (List.replicate k 0 ++ ds) ∧ Below w.heap.size w wr

theorem DivRel.start (w : World) (xs : List Nat) {b : Nat} (hb : 0 < b) : DivRel w xs b xs.length 0 (w.alloc (.cells (madeCells #[.int .u64 0] xs.length) 23)) :=
  ⟨[], by simp, Nat.le_refl _, Sm.nil, hb, by simp [val], by simpa using Bk.made w xs.length, (Below.refl _ _).alloc (Nat.le_refl _) _⟩
theorem drop_val {xs : List Nat} {m : Nat} (h : m < xs.length) : val (xs.drop m) = wd xs m + Bw * val (xs.drop (m + 1)) := by
  rw [List.drop_eq_getElem_cons h, val]
  have : xs[m] = wd xs m := by have := wd_in h; rw [List.getElem?_eq_getElem h] at this; simpa using this
  rw [this]
theorem DivRel.next {w wr w' : World} {xs : List Nat} {b m r : Nat} (h : DivRel w xs b (m + 1) r wr) (hs : Sm xs) (hw : Below wr.heap.size wr w') :
    DivRel w xs b m (reW r (wd xs m) b) (w'.setCell ⟨w.heap.size, m, none⟩ (.int .u64 (quW r (wd xs m) b : Int))) := by
  obtain ⟨ds, h1, h2, h3, h4, h5, h6, h7⟩ := h
  refine ⟨quW r (wd xs m) b :: ds, by simp [h1]; omega, by omega, Sm.cons (quW_lt h4 (wd_lt hs m)) h3, Nat.mod_lt _ (by omega), ?_, ?_, ?_⟩
  · rw [drop_val (by omega), ← h5, val, Nat.add_mul, Nat.mul_add]
    have := quW_eq r (wd xs m) b
    have e : Bw * val ds * b = Bw * (val ds * b) := Nat.mul_assoc _ _ _
    have e2 : Bw * r = r * Bw := Nat.mul_comm _ _
    omega
  · have := (h6.below hw h6.lt).set m (quW r (wd xs m) b)
    have e : (List.replicate (m + 1) 0 ++ ds).set m (quW r (wd xs m) b) = List.replicate m 0 ++ quW r (wd xs m) b :: ds := by
      rw [List.replicate_succ', List.append_assoc, List.set_append_right _ _ (by simp)]
      simp
    rw [e] at this
    exact this
  · exact (h7.trans (hw.mono (h7.size))).setCell (Nat.le_refl _) _
theorem DivRel.free {w wr w' : World} {xs : List Nat} {b m r : Nat} (h : DivRel w xs b (m + 1) r wr) (hw : Below wr.heap.size wr w') :
    w'.cell? ⟨w.heap.size, m, none⟩ = some (.int .u64 0) ∧ w'.frozen? ⟨w.heap.size, m, none⟩ = false := by
  obtain ⟨ds, h1, h2, h3, h4, h5, h6, h7⟩ := h
  have h8 := h6.below hw h6.lt
  refine ⟨?_, h8.frozen m⟩
  rw [h8.cell (by simp; omega)]
  have : Go.Proofs.Ytfhbnolppahfhaa.wd (List.replicate (m + 1) 0 ++ ds) m = 0 := by
    unfold Go.Proofs.Ytfhbnolppahfhaa.wd
    rw [List.getD_eq_getElem?_getD, List.getElem?_append_left (by simp), List.getElem?_replicate]; split <;> rfl
  rw [this]; rfl

theorem DivRel.done {w wr : World} {xs : List Nat} {b r : Nat} (h : DivRel w xs b 0 r wr) (hb : 0 < b) :
    ∃ zs, zs.length = xs.length ∧ Wd wr (some ⟨w.heap.size, 0, none⟩) zs ∧ val zs = val xs / b ∧ r = val xs % b ∧ Below w.heap.size w wr := by
  obtain ⟨ds, h1, h2, h3, h4, h5, h6, h7⟩ := h
  simp only [List.drop_zero, List.replicate_zero, List.nil_append] at h5 h6
  refine ⟨ds, by omega, h6.wd h3, ?_, ?_, h7⟩
  · rw [← h5, Nat.add_comm, Nat.add_mul_div_right _ _ hb, Nat.div_eq_of_lt h4, Nat.zero_add]
  · rw [← h5, Nat.add_comm, Nat.add_mul_mod_self_right, Nat.mod_eq_of_lt h4]

set_option maxHeartbeats 1000000 in
theorem div_any (A : Option Addr) (ca b : Nat) (xs : List Nat) (w : World) (ha : Wd w A xs) (hra : rt xs = true) (hb0 : 0 < b) (hbB : b < Bw) :
    Calls Try.prog 23 #[.slice A xs.length ca, .int .u64 (b : Int)] w fun e w' => ∃ R c, e = .returned (.tuple #[.slice R (words (val xs / b)).length c, .int .u64 ((val xs % b : Nat) : Int), .int .i64 0]) ∧
      Wd w' R (words (val xs / b)) ∧ (words (val xs / b)).length ≤ c ∧ Below w.heap.size w w' := by
  have hla : xs.length ≤ 64 := ((rt_iff _).1 hra).1
  have hmk := run_make_row' (P := Try.prog) 22 23 (.int .u64 0) 8 Try.underlying22 Try.info23 rfl .i64 .i64 xs.length (by omega) (by omega)
  have CA := Lib.hid (right_any A ca xs w ha (by omega))
  rw [hra] at CA
  have HA := Lib.hid ha
  have hbz := eqz_no (x := b) (by omega)
  clear ha hra
  go_enter Try.func23, Try.ntmps23
  go_wp2_with fail
  refine CA.out.mono ?_
  rintro e w' ⟨rfl, rfl⟩
  go_wp2_with fail
  go_loopw [8, 9] (fun rv i wr => ∃ k r : Nat, i = .int .i64 ((k : Int) - 1) ∧ rv = .int .u64 r ∧ DivRel w xs b k r wr) (fun _ i _ => (intOf i + 1).toNat)
  case atStart => exact ⟨xs.length, 0, rfl, rfl, DivRel.start w xs hb0⟩
  case round =>
    obtain ⟨k, r, rfl, rfl, hR⟩ := hrel
    have HR := Lib.hid hR
    clear hR hbz
    cases k with
    | zero =>
      rw [show ((0 : Nat) : Int) - 1 = -1 from rfl]
      obtain ⟨zs, hz1, hz2, hz3, hz4, hz5⟩ := HR.out.done hb0
      have C := Lib.hid (trim_any (some ⟨w.heap.size, 0, none⟩) xs.length zs _ hz2 (by omega) (by omega))
      rw [hz1, hz3] at C
      have HW : Hid (Wd wr (some ⟨w.heap.size, 0, none⟩) (words (val xs / b))) := by
        obtain ⟨n, hn⟩ := words_is_take hz2.1
        rw [hz3] at hn
        have := hz2.take n
        rw [← hn] at this
        exact this
      have HL : Hid ((words (val xs / b)).length ≤ xs.length) := by
        have := (words_len (val zs) zs.length).2 (val_lt hz2.1)
        rw [hz3, hz1] at this
        exact this
      have HB := Lib.hid hz5
      have H4 := Lib.hid hz4
      clear hz1 hz2 hz3 hz4 hz5
      go_wp2_with fail
      refine C.out.mono ?_
      rintro e w' ⟨rfl, rfl⟩
      go_wp2
      go_ret3
      exact ⟨_, _, by rw [← H4.out]; rfl, HW.out, HL.out, HB.out⟩
    | succ m =>
      rw [show ((m + 1 : Nat) : Int) - 1 = (m : Int) by omega]
      obtain ⟨_, _, hml, _, hrb, _, _, hbel⟩ := HR.out
      have HW : Wd wr A xs := HA.out.below hbel
      obtain ⟨bl, ofb, rfl, _, hcb⟩ := HW.2 (by omega)
      have hcx := hcb m (by omega)
      have C := Lib.hid (div64_any r (wd xs m) b wr hrb hbB (wd_lt HA.out.1 m))
      clear hcb HW hbel
      go_wp2_with fail
      refine C.out.mono ?_
      rintro e w' ⟨rfl, hw'⟩
      obtain ⟨f1, f2⟩ := HR.out.free hw'
      have HW' := Lib.hid hw'
      clear hw'
      go_wp2_with fail
      go_roundw
      case rel => exact ⟨m, _, rfl, rfl, HR.out.next HA.out.1 HW'.out⟩
      case measure => simp [intOf]

set_option maxHeartbeats 400000 in
theorem div_bad (A : Option Addr) (ca b : Nat) (xs : List Nat) (w : World) (ha : Wd w A xs) (hla : xs.length ≤ 9223372036854775807) (hra : rt xs = false) :
    Calls Try.prog 23 #[.slice A xs.length ca, .int .u64 (b : Int)] w fun e w' => e = .returned (.tuple #[.slice none 0 0, .int .u64 0, .int .i64 1]) ∧ w = w' := by
  have CA := Lib.hid (right_any A ca xs w ha hla)
  rw [hra] at CA
  clear ha hra
  go_enter Try.func23, Try.ntmps23
  go_wp2_with fail
  refine CA.out.mono ?_
  rintro e w' ⟨rfl, rfl⟩
  go_wp2
  go_ret3
  exact ⟨rfl, rfl⟩

set_option maxHeartbeats 400000 in
theorem div_zero (A : Option Addr) (ca : Nat) (xs : List Nat) (w : World) (ha : Wd w A xs) (hla : xs.length ≤ 9223372036854775807) (hra : rt xs = true) :
    Calls Try.prog 23 #[.slice A xs.length ca, .int .u64 0] w fun e w' => e = .returned (.tuple #[.slice none 0 0, .int .u64 0, .int .i64 2]) ∧ w = w' := by
  have CA := Lib.hid (right_any A ca xs w ha hla)
  rw [hra] at CA
  clear ha hra
  go_enter Try.func23, Try.ntmps23
  go_wp2_with fail
  refine CA.out.mono ?_
  rintro e w' ⟨rfl, rfl⟩
  go_wp2
  go_ret3
  exact ⟨rfl, rfl⟩
end Go.Proofs.Ytfhbnolppahfhaa
