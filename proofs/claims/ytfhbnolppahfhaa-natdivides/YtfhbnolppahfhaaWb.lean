/- nat.Sub. -/
import Derived.Test.YtfhbnolppahfhaaWa
import Derived.Test.YtfhbnolppahfhaaW2
import Derived.Shelf.Spec.BitsCarry
namespace Go.Proofs.Ytfhbnolppahfhaa
open Go.RowKit Go.Deep

/-- The word and the borrow of a difference of two words and a borrow. -/
def loS (x y c : Nat) : Nat := (x + Bw - y - c) % Bw
def hiS (x y c : Nat) : Nat := if x < y + c then 1 else 0
theorem loS_lt (x y c : Nat) : loS x y c < Bw := Nat.mod_lt _ Bw_pos
theorem hiS_le (x y c : Nat) : hiS x y c ≤ 1 := by unfold hiS; split <;> omega
theorem loS_eq {x y c : Nat} (hx : x < Bw) (hy : y < Bw) (hc : c ≤ 1) : loS x y c + y + c = x + Bw * hiS x y c := by
  unfold loS hiS Bw at *
  split <;> omega

theorem sub64_run (x y c : Nat) (hc : c ≤ 1) (w : World) :
    (callFunc 34 #[.int .u64 (x : Int), .int .u64 (y : Int), .int .u64 (c : Int)]).run Try.prog w =
      .ok (.value (.tuple #[.int .u64 (loS x y c : Int), .int .u64 (hiS x y c : Int)])) w := by
  rw [run_callFunc_extern Try.func34 (by kernel_rfl) (by kernel_rfl) (by kernel_rfl) (e := sub64Entry) (by kernel_rfl), run_sub64 x y c hc]
  simp only [Result.andThen]
  unfold loS hiS Bw
  rfl

theorem sub_step {xs ys ds : List Nat} {k c d c' : Nat} (h1 : ds.length = k) (h4 : val ds + val (ys.take k) = val (xs.take k) + Bw ^ k * c) (e : d + wd ys k + c = wd xs k + Bw * c') :
    val (ds ++ [d]) + val (ys.take (k + 1)) = val (xs.take (k + 1)) + Bw ^ (k + 1) * c' := by
  rw [val_append, h1, val_take_any, val_take_any]
  simp only [val, Nat.mul_zero, Nat.add_zero]
  have e2 : Bw ^ k * d + Bw ^ k * wd ys k + Bw ^ k * c = Bw ^ k * wd xs k + Bw ^ (k + 1) * c' := by
    rw [Nat.pow_succ, Nat.mul_assoc, ← Nat.mul_add, ← Nat.mul_add, e, Nat.mul_add]
  omega

/-- What stands in the loop of Sub: k words are done, c is borrowed. -/
def SubRel (w : World) (xs ys : List Nat) (k c : Nat) (wr : World) : Prop :=
  ∃ ds, ds.length = k ∧ Sm ds ∧ c ≤ 1 ∧ val ds + val (ys.take k) = val (xs.take k) + Bw ^ k * c ∧ Bk wr w.heap.size (ds ++ List.replicate (xs.length - k) 0) ∧ Below w.heap.size w wr

theorem SubRel.start {w0 w : World} (h : Below w.heap.size w w0) (hsz : w0.heap.size = w.heap.size) (xs ys : List Nat) : SubRel w xs ys 0 0 (w0.alloc (.cells (madeCells #[.int .u64 0] xs.length) 23)) :=
  ⟨[], rfl, Sm.nil, by omega, by simp [val], by have := Bk.made w0 xs.length; rw [hsz] at this; simpa using this, h.alloc (by omega) _⟩
theorem SubRel.next {w wr : World} {xs ys : List Nat} {k c : Nat} (h : SubRel w xs ys k c wr) (hx : Sm xs) (hy : Sm ys) (hk : k < xs.length) :
    SubRel w xs ys (k + 1) (hiS (wd xs k) (wd ys k) c) (wr.setCell ⟨w.heap.size, k, none⟩ (.int .u64 (loS (wd xs k) (wd ys k) c : Int))) := by
  obtain ⟨ds, h1, h2, h3, h4, h5, h6⟩ := h
  refine ⟨ds ++ [loS (wd xs k) (wd ys k) c], by simp [h1], h2.append (Sm.one (loS_lt _ _ _)), hiS_le _ _ _, ?_, ?_, h6.setCell (Nat.le_refl _) _⟩
  · exact sub_step h1 h4 (loS_eq (wd_lt hx k) (wd_lt hy k) h3)
  · have := h5.set k (loS (wd xs k) (wd ys k) c)
    rw [set_next h1 hk] at this
    exact this
theorem SubRel.free {w wr : World} {xs ys : List Nat} {k c : Nat} (h : SubRel w xs ys k c wr) (hk : k < xs.length) : wr.cell? ⟨w.heap.size, k, none⟩ = some (.int .u64 0) ∧ wr.frozen? ⟨w.heap.size, k, none⟩ = false := by
  obtain ⟨ds, h1, h2, h3, h4, h5, h6⟩ := h
  refine ⟨?_, h5.frozen k⟩
  rw [h5.cell (by simp [h1]; omega)]
  have : Go.Proofs.Ytfhbnolppahfhaa.wd (ds ++ List.replicate (xs.length - k) 0) k = 0 := by
    unfold Go.Proofs.Ytfhbnolppahfhaa.wd
    rw [List.getD_eq_getElem?_getD, List.getElem?_append_right (by omega), List.getElem?_replicate]; split <;> rfl
  rw [this]; rfl
theorem SubRel.done {w wr : World} {xs ys : List Nat} {c : Nat} (h : SubRel w xs ys xs.length c wr) (hx : Sm xs) (hl : ys.length ≤ xs.length) (hv : val ys ≤ val xs) :
    ∃ zs, zs.length = xs.length ∧ Wd wr (some ⟨w.heap.size, 0, none⟩) zs ∧ val zs = val xs - val ys ∧ Below w.heap.size w wr := by
  obtain ⟨ds, h1, h2, h3, h4, h5, h6⟩ := h
  rw [val_take_all hl, val_take_all (Nat.le_refl _)] at h4
  rw [Nat.sub_self, List.replicate_zero, List.append_nil] at h5
  have hd := val_lt h2
  rw [h1] at hd
  refine ⟨ds, h1, h5.wd h2, ?_, h6⟩
  have : c = 0 ∨ c = 1 := by omega
  rcases this with rfl | rfl
  · omega
  · omega

set_option maxHeartbeats 1000000 in
theorem sub_any (A B : Option Addr) (ca cb : Nat) (xs ys : List Nat) (w : World) (ha : Wd w A xs) (hb : Wd w B ys) (hra : rt xs = true) (hrb : rt ys = true) (hv : val ys ≤ val xs) :
    Calls Try.prog 11 #[.slice A xs.length ca, .slice B ys.length cb] w fun e w' => ∃ R c, e = .returned (.tuple #[.slice R (words (val xs - val ys)).length c, .int .i64 0]) ∧
      Wd w' R (words (val xs - val ys)) ∧ Below w.heap.size w w' := by
  have hla : xs.length ≤ 64 := ((rt_iff _).1 hra).1
  have hlb : ys.length ≤ 64 := ((rt_iff _).1 hrb).1
  have hlen : ys.length ≤ xs.length := by
    rcases Nat.lt_or_ge xs.length ys.length with h | h
    · have := len_lt ha.1 ((rt_iff _).1 hrb).2 h
      omega
    · exact h
  have hmk := run_make_row' (P := Try.prog) 22 23 (.int .u64 0) 8 Try.underlying22 Try.info23 rfl .i64 .i64 xs.length (by omega) (by omega)
  have CA := Lib.hid (right_any A ca xs w ha (by omega))
  have CB := Lib.hid (right_any B cb ys w hb (by omega))
  have CC := compare_any A B ca cb xs ys w ha hb hra hrb
  obtain ⟨o, ho⟩ : ∃ o, o = ord (val xs) (val ys) := ⟨_, rfl⟩
  have ho0 : 0 ≤ o := by rw [ho]; unfold ord; rw [if_neg (by omega)]; split <;> decide
  rw [← ho] at CC
  have HCC := Lib.hid CC
  rw [hra] at CA
  rw [hrb] at CB
  have HA := Lib.hid ha
  have HB := Lib.hid hb
  have HV := Lib.hid hv
  clear ha hb hra hrb hv ho CC
  go_enter Try.func11, Try.ntmps11
  go_wp2_with fail
  refine CA.out.mono ?_
  rintro e w' ⟨rfl, rfl⟩
  go_wp2_with fail
  refine CB.out.mono ?_
  rintro e w' ⟨rfl, rfl⟩
  go_wp2_with fail
  refine HCC.out.mono ?_
  rintro e w1 ⟨rfl, hB1⟩
  have HB1 := Lib.hid hB1
  have HA1 : Hid (Wd w1 A xs) := HA.out.below hB1
  have HBy : Hid (Wd w1 B ys) := HB.out.below hB1
  clear hB1
  go_wp2_with fail
  go_loopw [7, 27] (fun cv i wr => ∃ k c : Nat, k ≤ xs.length ∧ i = .int .i64 k ∧ cv = .int .u64 c ∧ SubRel w1 xs ys k c wr) (fun _ i _ => xs.length - (intOf i).toNat)
  case atStart => exact ⟨0, 0, Nat.zero_le _, rfl, rfl, SubRel.start (Below.refl _ _) rfl xs ys⟩
  case round =>
    obtain ⟨k, c, hk, rfl, rfl, hR⟩ := hrel
    have HR := Lib.hid hR
    clear hR ho0
    by_cases hlt : k < xs.length
    · obtain ⟨hc1, hc2⟩ := HR.out.free hlt
      obtain ⟨_, _, _, hcle, _, _, hbel⟩ := HR.out
      have hsub := sub64_run (wd xs k) (wd ys k) c hcle wr
      obtain ⟨b, ofb, rfl, _, hcb⟩ := (HA1.out.below hbel).2 (by omega)
      have hcx := hcb k hlt
      have C := Lib.hid (wordAt_any B cb ys k wr (HBy.out.below hbel) (by omega) (by omega))
      clear hbel hcb
      go_wp2_with fail
      refine C.out.mono ?_
      rintro e w' ⟨rfl, rfl⟩
      go_wp2_with fail
      go_roundw
      case rel => exact ⟨k + 1, _, by omega, by go_num, rfl, HR.out.next HA1.out.1 HBy.out.1 hlt⟩
      case measure => simp [intOf]; omega
    · obtain rfl : xs.length = k := by omega
      obtain ⟨zs, hz1, hz2, hz3, hz4⟩ := HR.out.done HA1.out.1 hlen HV.out
      have C := Lib.hid (trim_any (some ⟨w1.heap.size, 0, none⟩) xs.length zs _ hz2 (by omega) (by omega))
      rw [hz1, hz3] at C
      have HW : Hid (Wd wr (some ⟨w1.heap.size, 0, none⟩) (words (val xs - val ys))) := by
        obtain ⟨n, hn⟩ := words_is_take hz2.1
        rw [hz3] at hn
        have := hz2.take n
        rw [← hn] at this
        exact this
      have HBl := Lib.hid hz4
      clear hz1 hz2 hz3 hz4
      go_wp2_with fail
      refine C.out.mono ?_
      rintro e w' ⟨rfl, rfl⟩
      go_wp2
      go_ret2
      exact ⟨_, _, rfl, HW.out, HB1.out.trans (HBl.out.mono HB1.out.size)⟩

set_option maxHeartbeats 400000 in
theorem sub_less (A B : Option Addr) (ca cb : Nat) (xs ys : List Nat) (w : World) (ha : Wd w A xs) (hb : Wd w B ys) (hra : rt xs = true) (hrb : rt ys = true) (hv : val xs < val ys) :
    Calls Try.prog 11 #[.slice A xs.length ca, .slice B ys.length cb] w fun e w' => e = .returned (.tuple #[.slice none 0 0, .int .i64 2]) ∧ Below w.heap.size w w' := by
  have hla : xs.length ≤ 64 := ((rt_iff _).1 hra).1
  have hlb : ys.length ≤ 64 := ((rt_iff _).1 hrb).1
  have CA := Lib.hid (right_any A ca xs w ha (by omega))
  have CB := Lib.hid (right_any B cb ys w hb (by omega))
  have CC := Lib.hid (compare_any A B ca cb xs ys w ha hb hra hrb)
  rw [ord_lt hv] at CC
  rw [hra] at CA
  rw [hrb] at CB
  clear ha hb hra hrb hv
  go_enter Try.func11, Try.ntmps11
  go_wp2_with fail
  refine CA.out.mono ?_
  rintro e w' ⟨rfl, rfl⟩
  go_wp2_with fail
  refine CB.out.mono ?_
  rintro e w' ⟨rfl, rfl⟩
  go_wp2_with fail
  refine CC.out.mono ?_
  rintro e w1 ⟨rfl, hB1⟩
  have HB1 := Lib.hid hB1
  clear hB1
  go_wp2
  go_ret2
  exact ⟨rfl, HB1.out⟩
set_option maxHeartbeats 400000 in
theorem sub_bad (A B : Option Addr) (ca cb : Nat) (xs ys : List Nat) (w : World) (ha : Wd w A xs) (hb : Wd w B ys) (hla : xs.length ≤ 9223372036854775807) (hlb : ys.length ≤ 9223372036854775807) (h : (rt xs && rt ys) = false) :
    Calls Try.prog 11 #[.slice A xs.length ca, .slice B ys.length cb] w fun e w' => e = .returned (.tuple #[.slice none 0 0, .int .i64 1]) ∧ w = w' := by
  have CA := Lib.hid (right_any A ca xs w ha hla)
  have CB := Lib.hid (right_any B cb ys w hb hlb)
  clear ha hb
  by_cases h1 : rt xs = true
  · have h2 : rt ys = false := by simpa [h1] using h
    rw [h1] at CA
    rw [h2] at CB
    clear h h1 h2
    go_enter Try.func11, Try.ntmps11
    go_wp2_with fail
    refine CA.out.mono ?_
    rintro e w' ⟨rfl, rfl⟩
    go_wp2_with fail
    refine CB.out.mono ?_
    rintro e w' ⟨rfl, rfl⟩
    go_wp2
    go_ret2
    exact ⟨rfl, rfl⟩
  · have h2 : rt xs = false := by simpa using h1
    rw [h2] at CA
    clear h h1 h2
    go_enter Try.func11, Try.ntmps11
    go_wp2_with fail
    refine CA.out.mono ?_
    rintro e w' ⟨rfl, rfl⟩
    go_wp2
    go_ret2
    exact ⟨rfl, rfl⟩
end Go.Proofs.Ytfhbnolppahfhaa
