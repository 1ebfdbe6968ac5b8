/- Int.Add. -/
import Derived.Test.YtclfimpcacoefaaI3
import Derived.Test.YtclfimpcacoefaaI4c
import Derived.Deep.RegionHeld3
import Derived.Deep.DeepCutAuto
namespace Go.Proofs.Ytclfimpcacoefaa
open Go.RowKit Go.Deep

theorem keep7 {w w1 : World} {a b c d e : Addr} {u v x y z : Value} (h : w.cell? a = some u ∧ w.cell? b = some v ∧ w.cell? c = some x ∧ w.cell? d = some y ∧ w.cell? e = some z ∧ w.frozen? d = false ∧ w.frozen? e = false)
    (hB : Below w.heap.size w w1) : w1.cell? a = some u ∧ w1.cell? b = some v ∧ w1.cell? c = some x ∧ w1.cell? d = some y ∧ w1.cell? e = some z ∧ w1.frozen? d = false ∧ w1.frozen? e = false := by
  obtain ⟨h1, h2, h3, h4, h5, h6, h7⟩ := h
  exact ⟨(hB.cell (block_lt_of_cell h1)).trans h1, (hB.cell (block_lt_of_cell h2)).trans h2, (hB.cell (block_lt_of_cell h3)).trans h3, (hB.cell (block_lt_of_cell h4)).trans h4, (hB.cell (block_lt_of_cell h5)).trans h5,
    (hB.frozen (block_lt_of_cell h4)).trans h6, (hB.frozen (block_lt_of_cell h5)).trans h7⟩

/-- Behind the two stores into a header. -/
theorem stored {w w1 : World} {g nz cz c : Nat} {n zn : Bool} {Z R : Option Addr} {zs : List Nat} (hz : Hd w g zn Z nz cz) (hB : Below w.heap.size w w1) (hW : H.Wd w1 R zs) :
    Hd ((w1.setCell ⟨g, 0, none⟩ (.bool n)).setCell ⟨g, 1, none⟩ (.slice R zs.length c)) g n R zs.length c ∧ H.Wd ((w1.setCell ⟨g, 0, none⟩ (.bool n)).setCell ⟨g, 1, none⟩ (.slice R zs.length c)) R zs ∧
      w.grownBy ((w1.setCell ⟨g, 0, none⟩ (.bool n)).setCell ⟨g, 1, none⟩ (.slice R zs.length c)) (some g) := by
  have h1 := hz.below hB
  have hg : w1.grownBy ((w1.setCell ⟨g, 0, none⟩ (.bool n)).setCell ⟨g, 1, none⟩ (.slice R zs.length c)) (some g) := grown_set (p := ⟨g, 1, none⟩) (grown_set (p := ⟨g, 0, none⟩) (grown_refl _ _) rfl _) rfl _
  exact ⟨(h1.set0 n).set1 _ _ _, Wd_only hW h1 hg, grown_trans (grown_below hB _) hg⟩
/-- .. and trim. -/
theorem stored_trim {w w1 : World} {g nz cz c : Nat} {n zn : Bool} {Z R : Option Addr} {zs : List Nat} (hz : Hd w g zn Z nz cz) (hB : Below w.heap.size w w1) (hW : H.Wd w1 R zs) (hl : zs.length ≤ 12000000000000) (hc : zs.length ≤ c) :
    Calls Try.prog 38 #[.pointer (some ⟨g, 0, none⟩)] ((w1.setCell ⟨g, 0, none⟩ (.bool n)).setCell ⟨g, 1, none⟩ (.slice R zs.length c)) fun e w' => e = .returned (.pointer (some ⟨g, 0, none⟩)) ∧ IsI w' g (sgn n (H.val zs)) ∧ w.grownBy w' (some g) := by
  obtain ⟨s1, s2, s3⟩ := stored (n := n) (c := c) hz hB hW
  refine (itrim_is R c g n zs _ s1 s2 hl hc).mono ?_
  rintro e w' ⟨rfl, h1, h2⟩
  exact ⟨rfl, h1, grown_trans s3 h2⟩

set_option maxRecDepth 100000 in
set_option maxHeartbeats 2000000 in
theorem iadd_same (g bx bY : Nat) (n : Bool) (A B Z : Option Addr) (ca cb nz cz : Nat) (zn : Bool) (xs ys : List Nat) (w : World)
    (x0 : w.cell? ⟨bx, 0, none⟩ = some (.bool n)) (x1 : w.cell? ⟨bx, 1, none⟩ = some (.slice A xs.length ca)) (y0 : w.cell? ⟨bY, 0, none⟩ = some (.bool n)) (y1 : w.cell? ⟨bY, 1, none⟩ = some (.slice B ys.length cb))
    (hz : Hd w g zn Z nz cz) (ha : H.Wd w A xs) (hb : H.Wd w B ys) (hlx : xs.length ≤ 11000000000000) (hly : ys.length ≤ 11000000000000) :
    Calls Try.prog 39 #[.pointer (some ⟨g, 0, none⟩), .pointer (some ⟨bx, 0, none⟩), .pointer (some ⟨bY, 0, none⟩)] w fun e w' => e = .returned (.pointer (some ⟨g, 0, none⟩)) ∧ IsI w' g (sgn n (H.val xs + H.val ys)) ∧ w.grownBy w' (some g) := by
  have z0 := hz.cell0
  have z1 := hz.cell1
  have f0 := hz.frozen 0
  have f1 := hz.frozen 1
  have HZ := Lib.hid hz
  have HA := Lib.hid ha
  have HB := Lib.hid hb
  clear hz ha hb
  have hnn : (n == n) = true := by simp
  go_enter Try.func39, Try.ntmps39
  go_wp2
  go_quiet (fail)
  go_wp2_with fail
  go_region_with ((go_at_call 44; refine (sumOf_any A B ca cb xs ys _ (HA.out.below (below_drewN (Below.refl _ _) _)) (HB.out.below (below_drewN (Below.refl _ _) _)) hlx hly).mono ?_; rintro e w1 ⟨R, c, zs, rfl, hW, hl, hc, hv, hB1⟩; obtain ⟨p1, p2, p3, p4, p5, p6, p7⟩ := keep7 (w := w) ⟨x0, x1, y1, z0, z1, f0, f1⟩ ((below_drewN (Below.refl _ _) _).trans hB1)))
  all_goals
    have HW := Lib.hid hW
    have HV := Lib.hid hv
    have HB1 : Hid (Below w.heap.size w w1) := (below_drewN (Below.refl _ _) _).trans hB1
    clear hW hv hB1 p1 p2 p3 p4 p5 p6 p7
    go_wp2_with fail
    refine (stored_trim HZ.out HB1.out HW.out (by omega) hc).mono ?_
    rintro e w2 ⟨rfl, h1, h2⟩
    rw [HV.out] at h1
    have H1 := Lib.hid h1
    have H2 := Lib.hid h2
    clear h1 h2
    go_wp2
    go_ret
    exact ⟨rfl, H1.out, H2.out⟩
end Go.Proofs.Ytclfimpcacoefaa
