/- slices.Repeat of one integer. -/
import Derived.Test.YtjhcbjpbmbjgoaaIv
import Derived.Test.YtjhcbjpbmbjgoaaMu
import Derived.Laws.CopyOwn
import Derived.Deep.RegionLaw
namespace Go.Proofs.Ytjhcbjpbmbjgoaa
open Go.RowKit Go.Deep

/-- The first m of n are x. -/
def repL (m n : Nat) (x : Int) : List Int := List.replicate m x ++ List.replicate (n - m) 0
theorem repL_len {m n : Nat} (h : m ≤ n) (x : Int) : (repL m n x).length = n := by simp [repL]; omega
theorem repL_all (n : Nat) (x : Int) : repL n n x = List.replicate n x := by simp [repL]
theorem repL_zero (n : Nat) (x : Int) : repL 0 n x = List.replicate n 0 := by simp [repL]
theorem repL_splice {m n c : Nat} (h : m + c ≤ n) (x : Int) : splice (ivs (repL m n x)) m (ivs (List.replicate c x)) = ivs (repL (m + c) n x) := by
  unfold splice
  rw [ivs_len, ← ivs_take, ← ivs_drop, ← ivs_append, ← ivs_append, List.length_replicate]
  congr 1
  unfold repL
  rw [List.take_append_of_le_length (by simp), List.take_of_length_le (by simp), List.drop_append, List.drop_of_length_le (by simp)]
  simp only [List.nil_append, List.length_replicate, List.drop_replicate]
  rw [← List.append_assoc, List.replicate_append_replicate]
  congr 2
  omega
theorem repL_at {m n j : Nat} (hm : m ≤ n) (h : j < m) (x : Int) : (repL m n x).getD j 0 = x := by
  unfold repL
  rw [List.getD_eq_getElem?_getD, List.getElem?_append_left (by simpa using h)]
  simp [h]
theorem info_int1 : (Try.prog.info? 3).map (·.size) = some 1 := by kernel_rfl

/-- What is to be copied lies there. -/
def CpP (w : World) (dp sp : Option Addr) (g off : Nat) (cs : List Value) : Prop := 0 < cs.length → dp = some ⟨g, off, none⟩ ∧ ∃ ad, sp = some ad ∧ ∀ j v, cs[j]? = some v → w.cell? (ad.add j) = some v

set_option maxRecDepth 100000 in
set_option maxHeartbeats 2000000 in
theorem repeat_any (A : Option Addr) (ca n : Nat) (x : Int) (w : World) (hx : IP w A ca [x]) (h1 : 1 ≤ n) (h4 : n ≤ 400) :
    Calls Try.prog 20 #[.slice A 1 ca, .int .i64 (n : Int)] w fun e w' => e = .returned (.slice (some ⟨w.heap.size, 0, none⟩) n n) ∧ Bs 3 w' w.heap.size (ivs (List.replicate n x)) ∧ Below w.heap.size w w' := by
  have CM := Lib.hid (mul_one_any n (by omega) w)
  have hmk := run_make_row' (P := Try.prog) 26 3 (.int .i64 0) 8 Try.underlying26 info_int rfl .i64 .i64 n (by omega) (by omega)
  obtain ⟨b, off, rfl, hb, hcell⟩ := hx.il.at (by simp)
  have hc0 := hcell 0 (by simp)
  have hle := hx.le
  have hcap := hx.cap
  simp only [List.getD_cons_zero, Nat.add_zero] at hc0
  have hZ : Bs 3 (w.alloc (.cells (madeCells #[.int .i64 0] n) 3)) w.heap.size (ivs (repL 0 n x)) := by rw [repL_zero]; exact bs_zeros w n
  have b1 : Below w.heap.size w (w.alloc (.cells (madeCells #[.int .i64 0] n) 3)) := (Below.refl _ _).alloc (Nat.le_refl _) _
  have hc1 := (b1.cell (p := ⟨b, off, none⟩) hb).trans hc0
  have HZ := Lib.hid hZ
  have HB1 := Lib.hid b1
  have w64 : IntKind.u64.wrap (n : Int) = (n : Int) := noWrap n (by omega)
  have d0 : decide ((n : Int) < 0) = false := by rw [decide_eq_false_iff_not]; omega
  have d1 : decide ((9223372036854775807 : Int) < (n : Int)) = false := by rw [decide_eq_false_iff_not]; omega
  obtain ⟨X1, hX1⟩ : ∃ X1, ivs (List.replicate 1 x) = X1 := ⟨_, rfl⟩
  have hl : X1.length = 1 := by rw [← hX1]; simp [ivs]
  have hn1 : Hid (X1.length = Nat.min 1 n) := by show _ = _; rw [hl]; exact (Nat.min_eq_left h1).symm
  have hp1 : Hid (CpP (w.alloc (.cells (madeCells #[.int .i64 0] n) 3)) (some ⟨w.heap.size, 0, none⟩) (some ⟨b, off, none⟩) w.heap.size 0 X1) := by
    intro _
    refine ⟨rfl, _, rfl, fun j v hj => ?_⟩
    rw [← hX1] at hj
    match j, hj with
    | 0, hj => simp [ivs] at hj; subst hj; rw [addr_add_zero]; exact hc1
  have hf1 : Hid (0 + X1.length ≤ (ivs (repL 0 n x)).length) := by show _ ≤ _; rw [hl, ivs_len, repL_len (by omega)]; omega
  have ho1 : Hid (∀ v ∈ X1, v.oneCell' = true) := by
    intro u hu
    rw [← hX1] at hu
    simp [ivs] at hu; subst hu; rfl
  have HX1 := Lib.hid hX1
  clear hx hcell hZ b1 hX1
  have hl1 : (1 : Nat) ≤ ca := by simpa using hle
  clear hle
  go_enter Try.func20, Try.ntmps20
  go_wp2_with fail
  refine CM.out.mono ?_
  rintro e w1 ⟨rfl, rfl⟩
  clear CM
  go_wp2_with (refine wpList_copy_splice (o := ⟨some 33, _, _, _, _, _⟩) rfl (.tmp 31) (.tmp 32) 26 26 rfl 3 Try.underlying26 info_int1 (some ⟨w.heap.size, 0, none⟩) (some ⟨b, off, none⟩) n n 1 ca rfl rfl w.heap.size 0 (ivs (repL 0 n x)) 3 HZ.out X1 hn1.out hp1.out hf1.out ho1.out w.heap.size w HB1.out (Nat.le_refl _) ?_)
  intro w2 hg2 hb2
  have HG2 : Hid (Bs 3 w2 w.heap.size (ivs (repL 1 n x))) := by
    have := hg2.out
    rw [← HX1.out, repL_splice (m := 0) (n := n) (c := 1) (by omega) x, Nat.zero_add] at this
    exact this
  have HB2 := Lib.hid hb2
  clear hg2 hb2
  go_wp2_with fail
  clear d0 d1 hn1 hp1 hf1 ho1 HX1 HZ HB1 hmk hc0 hc1 w64
  go_loopw [8] (fun mv wr => ∃ m : Nat, 1 ≤ m ∧ m ≤ n ∧ mv = .int .i64 m ∧ Bs 3 wr w.heap.size (ivs (repL m n x)) ∧ Below w.heap.size w wr) (fun mv _ => n - (intOf mv).toNat)
  case atStart => exact ⟨1, by omega, by omega, rfl, HG2.out, HB2.out⟩
  case round =>
    clear HG2 HB2
    obtain ⟨m, hm1, hmn, rfl, hG, hB⟩ := hrel
    have HG := Lib.hid hG
    have HB := Lib.hid hB
    by_cases hlt : m < n
    · obtain ⟨c, hc⟩ : ∃ c, Nat.min m (n - m) = c := ⟨_, rfl⟩
      have hc' : c ≤ m ∧ c ≤ n - m ∧ 1 ≤ c := by
        have : min m (n - m) = c := hc
        omega
      obtain ⟨X2, hX2⟩ : ∃ X2, ivs (List.replicate c x) = X2 := ⟨_, rfl⟩
      have hl2 : X2.length = c := by rw [← hX2]; simp [ivs]
      have hn2 : Hid (X2.length = Nat.min m (n - m)) := by show _ = _; rw [hl2, hc]
      have hp2 : Hid (CpP wr.drew (some ⟨w.heap.size, m, none⟩) (some ⟨w.heap.size, 0, none⟩) w.heap.size m X2) := by
        intro _
        refine ⟨rfl, _, rfl, fun j v hj => ?_⟩
        have hj2 : j < c := by have := (List.getElem?_eq_some_iff.1 hj).1; omega
        rw [← hX2, ivs_at (by simpa using hj2)] at hj
        have h1 : wr.drew.cell? ⟨w.heap.size, j, none⟩ = some (.int .i64 ((repL m n x).getD j 0)) := Bs.atI (w := wr.drew) hG (by rw [repL_len (by omega)]; omega)
        rw [Addr.add_lit, Nat.zero_add, h1, repL_at (by omega) (by omega), ← hj]
        simp [List.getD_eq_getElem?_getD, hj2]
      have hf2 : Hid (m + X2.length ≤ (ivs (repL m n x)).length) := by show _ ≤ _; rw [hl2, ivs_len, repL_len (by omega)]; omega
      have ho2 : Hid (∀ v ∈ X2, v.oneCell' = true) := by
        intro u hu
        rw [← hX2] at hu
        obtain ⟨y, _, rfl⟩ := List.mem_map.1 hu
        rfl
      have HX2 := Lib.hid hX2
      have hbd : Hid (Below w.heap.size w wr.drew) := hB.drew
      have HBs : Hid (wr.drew.heap[w.heap.size]? = some (.cells (ivs (repL m n x)).toArray 3 (0, 0))) := hG
      have hc1 := hc'.1
      have hc2 := hc'.2.1
      have hc3 := hc'.2.2
      have hnm : ¬ n = m := by omega
      clear hX2 hc hc' hG hB
      have hi4 : IntKind.i64.wrap ((m : Int) + (c : Int)) = (m : Int) + (c : Int) := IntWalk.i64_in _ (by omega)
      go_wp2_with fail
      go_region_law (refine step_copy_splice rfl (.tmp 41) (.tmp 44) 26 26 rfl 3 Try.underlying26 info_int1 (some ⟨w.heap.size, m, none⟩) (some ⟨w.heap.size, 0, none⟩) (n - m) (n - m) m n (by go_simp) (by go_simp) w.heap.size m (ivs (repL m n x)) 3 HBs.out X2 hn2.out hp2.out hf2.out ho2.out w.heap.size w hbd.out (Nat.le_refl _) ?_; intro w4 hg4 hb4)
      have HG4 : Hid (Bs 3 w4 w.heap.size (ivs (repL (m + c) n x))) := by
        have := hg4.out
        rw [← HX2.out, repL_splice (m := m) (n := n) (c := c) (by omega) x] at this
        exact this
      have HB4 := Lib.hid hb4
      clear hg4 hb4 HX2 hn2 hp2 hf2 ho2 hbd HBs
      go_simp
      go_wp2
      go_roundw
      case rel => exact ⟨m + c, by omega, by omega, by go_num, HG4.out, HB4.out⟩
      case measure => simp [intOf]; omega
    · obtain rfl : m = n := by omega
      rw [repL_all] at HG
      go_wp2
      go_ret
      exact ⟨rfl, HG.out, HB.out⟩
end Go.Proofs.Ytjhcbjpbmbjgoaa
