/- Int.Set, Neg and Sub. -/
import Derived.Test.YtclfimpcacoefaaI6
import Derived.Deep.AppendLies
import Derived.Deep.RegionLaw
namespace Go.Proofs.Ytclfimpcacoefaa
open Go.RowKit Go.Deep

theorem cells_one (xs : List Nat) : ∀ u ∈ H.cellsOf xs, u.oneCell' = true := by
  intro u hu
  unfold H.cellsOf at hu
  obtain ⟨x, _, rfl⟩ := List.mem_map.1 hu
  rfl
theorem cells_lie {w : World} {b off : Nat} {xs : List Nat} (h : ∀ j, j < xs.length → w.cell? ⟨b, off + j, none⟩ = some (.int .u32 (H.wd xs j : Int))) : ∀ j u, (H.cellsOf xs)[j]? = some u → w.cell? ((⟨b, off, none⟩ : Addr).add j) = some u := by
  intro j u hu
  have hj : j < xs.length := by
    rcases Nat.lt_or_ge j xs.length with k | k
    · exact k
    · rw [List.getElem?_eq_none (by rw [H.cellsOf_len]; exact k)] at hu; cases hu
  rw [H.cellsOf_at hj] at hu
  rw [Go.WideShapes.add_plain, h j hj]
  exact hu
/-- What an append of digits onto nothing leaves, as digits. -/
theorem Wd_of_own {w : World} {base g cap : Nat} {xs : List Nat} (hs : H.Sm xs) (h : w.ownsRow base 63 1 (.slice (some ⟨g, 0, none⟩) (0 + xs.length) cap) (0 + xs.length) ([] ++ H.cellsOf xs)) (hg : g < w.heap.size) : H.Wd w (some ⟨g, 0, none⟩) xs :=
  ⟨hs, fun _ => by
    refine ⟨g, 0, rfl, ⟨hg, ?_⟩, fun j hj => by rw [Nat.zero_add, h.cellAt j (by omega), List.nil_append, H.cellsOf_at hj]⟩
    rcases h.2 with ⟨h0, _⟩ | ⟨g', cap', cur, hv, _, hh, _⟩
    · simp at h0
    · simp at hv
      obtain ⟨rfl, _⟩ := hv
      exact ⟨cur, _, hh⟩⟩
theorem own_cap {w : World} {base g cap n : Nat} {xs : List Value} (h : w.ownsRow base 63 1 (.slice (some ⟨g, 0, none⟩) n cap) n xs) (hn : 0 < n) : n ≤ cap := by
  rcases h.2 with ⟨h0, _⟩ | ⟨g', cap', cur, hv, _, _, hnc, _⟩
  · simp at h0
  · simp at hv
    omega

set_option maxRecDepth 100000 in
set_option maxHeartbeats 2000000 in
theorem iset_pos (g bx : Nat) (n zn : Bool) (A Z : Option Addr) (ca nz cz : Nat) (xs : List Nat) (w : World)
    (x0 : w.cell? ⟨bx, 0, none⟩ = some (.bool n)) (x1 : w.cell? ⟨bx, 1, none⟩ = some (.slice A xs.length ca))
    (hz : Hd w g zn Z nz cz) (ha : H.Wd w A xs) (hlx : xs.length ≤ 900000) (hp : 0 < xs.length) :
    Calls Try.prog 46 #[.pointer (some ⟨g, 0, none⟩), .pointer (some ⟨bx, 0, none⟩)] w fun e w' => e = .returned (.pointer (some ⟨g, 0, none⟩)) ∧ ∃ R c, Hd w' g n R xs.length c ∧ H.Wd w' R xs ∧ xs.length ≤ c ∧ w.grownBy w' (some g) := by
  have z0 := hz.cell0
  have z1 := hz.cell1
  have f0 := hz.frozen 0
  have f1 := hz.frozen 1
  have HZ := Lib.hid hz
  obtain ⟨b, off, rfl, ⟨hlt, _⟩, hc⟩ := ha.2 hp
  have lx := block_lt_of_cell x0
  have lz := hz.lt
  simp only at lx
  obtain ⟨i0, hi0, hz0, hz1, hz2⟩ := info_parts Try.info63
  have HC := Lib.hid hc
  have HS := Lib.hid ha.1
  have hB0 : Hid (Below w.heap.size w (w.alloc (.cells #[] 63)).drew) := ((Below.refl _ _).alloc (Nat.le_refl _) _).drew
  have hOwn : Hid (((w.alloc (.cells #[] 63)).drew).ownsRow w.heap.size 63 1 (.slice (some ⟨w.heap.size, 0, none⟩) 0 0) 0 []) := (World.ownsRow_lit w #[] 0 (Nat.le_refl _) (by simp [maxLen]) (by simp)).drew
  clear hz ha hc
  go_enter Try.func46, Try.ntmps46
  go_wp2
  go_region_law (refine step_append_lies _ rfl (.tmp 11) (.tmp 15) 49 rfl w.heap.size 63 i0 (.int .u32 0) 1 4 Try.underlying49 hi0 hz0 hz1 hz2 rfl (by decide) (.slice (some ⟨w.heap.size, 0, none⟩) 0 0) 0 [] rfl hOwn.out ⟨b, off, none⟩ xs.length ca (H.cellsOf xs) rfl (by rw [H.cellsOf_len, Nat.mul_one]) (cells_lie (fun j hj => (hB0.out.cell (p := ⟨b, off + j, none⟩) hlt).trans (HC.out j hj))) (cells_one xs) hp (by simp only [maxLen]; omega) (by omega) (by simp) _ rfl ?_; intro g1 cap w1 hown hgrow hat hlt1; have hB1 : Below w.heap.size w w1 := hB0.out.grown hgrow (by simp) (by simp [Value.ownBlock]); obtain ⟨p1, p2, p3, p4, p5⟩ := keep4 (w := w) ⟨x0, z0, z1, f0, f1⟩ hB1)
  all_goals
    have hWd := Wd_of_own HS.out hown hlt1
    have hcap := own_cap hown (by omega)
    rw [Nat.zero_add] at hcap
    obtain ⟨s1, s2, s3⟩ := stored (n := n) (c := cap) HZ.out hB1 hWd
    have S1 := Lib.hid s1
    have S2 := Lib.hid s2
    have S3 := Lib.hid s3
    clear hown hgrow hat hlt1 hB1 p1 p2 p3 p4 p5 hWd s1 s2 s3
    go_wp2
    go_ret
    exact ⟨rfl, _, _, S1.out, S2.out, hcap, S3.out⟩

set_option maxRecDepth 100000 in
set_option maxHeartbeats 2000000 in
theorem iset_zero (g bx : Nat) (n zn : Bool) (A Z : Option Addr) (ca nz cz : Nat) (w : World)
    (x0 : w.cell? ⟨bx, 0, none⟩ = some (.bool n)) (x1 : w.cell? ⟨bx, 1, none⟩ = some (.slice A 0 ca))
    (hz : Hd w g zn Z nz cz) :
    Calls Try.prog 46 #[.pointer (some ⟨g, 0, none⟩), .pointer (some ⟨bx, 0, none⟩)] w fun e w' => e = .returned (.pointer (some ⟨g, 0, none⟩)) ∧ ∃ R c, Hd w' g n R 0 c ∧ w.grownBy w' (some g) := by
  have z0 := hz.cell0
  have z1 := hz.cell1
  have f0 := hz.frozen 0
  have f1 := hz.frozen 1
  have HZ := Lib.hid hz
  have lx := block_lt_of_cell x0
  have lz := hz.lt
  simp only at lx
  have HB := Lib.hid ((Below.refl w.heap.size w).alloc (Nat.le_refl _) (.cells #[] 63))
  clear hz
  rcases A with _ | ad
  all_goals
    go_enter Try.func46, Try.ntmps46
    go_wp2
    go_region
    go_wp2
    go_ret
    refine ⟨rfl, some ⟨w.heap.size, 0, none⟩, 0, ((HZ.out.set0 n).set1 _ _ _).below (((Below.refl _ _).alloc (Nat.le_refl _) (.cells #[] 63)).drew), grown_drew (grown_alloc (grown_set (p := ⟨g, 1, none⟩) (grown_set (p := ⟨g, 0, none⟩) (grown_refl _ _) rfl _) rfl _) _)⟩

/-- Set: a copy. -/
theorem iset_any (g bx : Nat) (X : Int) (w : World) (hg : IsH w g) (hx : IsI w bx X) (sx : X.natAbs < Bh ^ 900000) :
    Calls Try.prog 46 #[.pointer (some ⟨g, 0, none⟩), .pointer (some ⟨bx, 0, none⟩)] w fun e w' => e = .returned (.pointer (some ⟨g, 0, none⟩)) ∧ IsI w' g X ∧ w.grownBy w' (some g) := by
  obtain ⟨zn, Z, nz, cz, hz⟩ := hg
  obtain ⟨A, ca, x0, x1, x2, _⟩ := hx.open_
  have lx := digits_le sx
  rcases Nat.eq_zero_or_pos (H.words X.natAbs).length with h | h
  · rw [h] at x1
    refine (iset_zero g bx _ zn A Z ca nz cz w x0 x1 hz).mono ?_
    rintro e w' ⟨rfl, R, c, h1, h2⟩
    refine ⟨rfl, ⟨R, c, by rw [h]; exact h1, ?_, by omega⟩, h2⟩
    rw [List.eq_nil_of_length_eq_zero h]; exact H.Wd.nil
  · refine (iset_pos g bx _ zn A Z ca nz cz _ w x0 x1 hz x2 lx h).mono ?_
    rintro e w' ⟨rfl, R, c, h1, h2, h3, h4⟩
    exact ⟨rfl, ⟨R, c, h1, h2, h3⟩, h4⟩

set_option maxHeartbeats 1000000 in
theorem ineg_any (g bx : Nat) (X : Int) (w : World) (hg : IsH w g) (hx : IsI w bx X) (sx : X.natAbs < Bh ^ 900000) :
    Calls Try.prog 40 #[.pointer (some ⟨g, 0, none⟩), .pointer (some ⟨bx, 0, none⟩)] w fun e w' => e = .returned (.pointer (some ⟨g, 0, none⟩)) ∧ IsI w' g (-X) ∧ w.grownBy w' (some g) := by
  have C := Lib.hid (iset_any g bx X w hg hx sx)
  have lx := digits_le sx
  clear hg hx sx
  go_enter Try.func40, Try.ntmps40
  go_wp2_with fail
  refine C.out.mono ?_
  rintro e w1 ⟨rfl, ⟨A, c, h1, h2, h3⟩, h4⟩
  have c0 := h1.cell0
  have c1 := h1.cell1
  have f0 := h1.frozen 0
  have H1 := Lib.hid h1
  have H2 := Lib.hid h2
  have H4 := Lib.hid h4
  have key : ∀ nb : Bool, nb = decide (-X < 0) → IsI (w1.setCell ⟨g, 0, none⟩ (.bool nb)) g (-X) ∧ w.grownBy (w1.setCell ⟨g, 0, none⟩ (.bool nb)) (some g) := by
    intro nb hnb
    have hg : w1.grownBy (w1.setCell ⟨g, 0, none⟩ (.bool nb)) (some g) := grown_set (p := ⟨g, 0, none⟩) (grown_refl _ _) rfl _
    refine ⟨⟨A, c, ?_, ?_, ?_⟩, grown_trans H4.out hg⟩
    · rw [← hnb, Int.natAbs_neg]; exact H1.out.set0 nb
    · rw [Int.natAbs_neg]; exact Wd_only H2.out H1.out hg
    · rw [Int.natAbs_neg]; exact h3
  have KEY := Lib.hid key
  clear h1 h2 h4 key
  by_cases hX : X < 0
  · have dX : decide (X < 0) = true := by simpa using hX
    rw [dX] at c0
    have K := Lib.hid (KEY.out false (by simp; omega))
    clear dX hX KEY c1
    go_wp2
    go_ret
    exact ⟨rfl, K.out.1, K.out.2⟩
  · have dX : decide (X < 0) = false := by simpa using hX
    rw [dX] at c0
    by_cases h0 : X = 0
    · have hw : (H.words X.natAbs).length = 0 := by rw [h0]; rfl
      rw [hw] at c1
      have K := Lib.hid (KEY.out false (by rw [h0]; rfl))
      clear dX hX KEY h0 hw
      go_wp2
      go_ret
      exact ⟨rfl, K.out.1, K.out.2⟩
    · have hw : 0 < (H.words X.natAbs).length := by
        rcases Nat.eq_zero_or_pos (H.words X.natAbs).length with e | e
        · have := (H.words_len X.natAbs 0).1 (by omega)
          simp at this; omega
        · exact e
      have K := Lib.hid (KEY.out true (by simp; omega))
      clear dX hX KEY h0
      go_wp2
      go_ret
      exact ⟨rfl, K.out.1, K.out.2⟩

set_option maxHeartbeats 1000000 in
theorem isub_any (g bx bY : Nat) (X Y : Int) (w : World) (hg : IsH w g) (hx : IsI w bx X) (hy : IsI w bY Y) (sx : X.natAbs < Bh ^ 900000) (sy : Y.natAbs < Bh ^ 900000) :
    Calls Try.prog 31 #[.pointer (some ⟨g, 0, none⟩), .pointer (some ⟨bx, 0, none⟩), .pointer (some ⟨bY, 0, none⟩)] w fun e w' => e = .returned (.pointer (some ⟨g, 0, none⟩)) ∧ IsI w' g (X - Y) ∧ w.grownBy w' (some g) := by
  have hB : Below w.heap.size w (w.alloc (.cells #[.bool false, .slice none 0 0] 51)) := (Below.refl _ _).alloc (Nat.le_refl _) _
  have C1 := Lib.hid (ineg_any w.heap.size bY Y (w.alloc (.cells #[.bool false, .slice none 0 0] 51)) (IsI.new w).hd (hy.below hB) sy)
  have HG := Lib.hid hg
  have HX := Lib.hid hx
  have SX := Lib.hid sx
  have SY := Lib.hid sy
  have HB := Lib.hid hB
  clear hg hx hy sx sy hB
  go_enter Try.func31, Try.ntmps31
  go_wp2_with fail
  refine C1.out.mono ?_
  rintro e w1 ⟨rfl, h1, h2⟩
  have hlt : g < w.heap.size := HG.out.lt
  have hltx : bx < w.heap.size := HX.out.lt
  have hN := (IsI.new w).hd
  have G1 : IsH w1 g := (HG.out.below HB.out).only (by omega) h2
  have X1 : IsI w1 bx X := (HX.out.below HB.out).only hN (by omega) h2
  have C2 := Lib.hid (iadd_any g bx w.heap.size X (-Y) w1 G1 X1 h1 SX.out (by rw [Int.natAbs_neg]; exact SY.out))
  rw [← Int.sub_eq_add_neg] at C2
  have H2 := Lib.hid h2
  clear h1 h2 G1 X1 hN
  go_wp2_with fail
  refine C2.out.mono ?_
  rintro e w2 ⟨rfl, k1, k2⟩
  have K1 := Lib.hid k1
  have K2 : Hid (w.grownBy w2 (some g)) := by
    refine ⟨k2.os.trans (H2.out.os.trans HB.out.os), k2.tape.trans (H2.out.tape.trans HB.out.tape), k2.output.trans (H2.out.output.trans HB.out.output), Nat.le_trans HB.out.size (Nat.le_trans H2.out.size k2.size), fun i hi hne => ?_⟩
    have l1 := HB.out.size
    have l2 := H2.out.size
    exact (k2.block i (by omega) hne).trans ((H2.out.block i (by omega) (fun e => by injection e; omega)).trans (HB.out.block i hi))
  clear k1 k2
  go_wp2
  go_ret
  exact ⟨rfl, K1.out, K2.out⟩
end Go.Proofs.Ytclfimpcacoefaa
