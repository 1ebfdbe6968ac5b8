/- lotdrawerkeep.CoinMore: the walk. -/
import Derived.Test.YtkfpomeemcmfmaaC4
namespace Go.Proofs.Ytkfpomeemcmfmaa
open Go.RowKit

theorem frac2_cells (w : World) (n d m q : Int) :
    let w1 := w.alloc (.cells #[.int .i64 n, .int .i64 d] 24)
    let w2 := w1.alloc (.cells #[.int .i64 m, .int .i64 q] 24)
    w2.cell? ⟨w.heap.size, 0, none⟩ = some (.int .i64 n) ∧ w2.cell? ⟨w.heap.size, 1, none⟩ = some (.int .i64 d) ∧ w2.cell? ⟨w.heap.size + 1, 0, none⟩ = some (.int .i64 m) ∧ w2.cell? ⟨w.heap.size + 1, 1, none⟩ = some (.int .i64 q) ∧ w2.heap.size = w.heap.size + 2 ∧ Below w.heap.size w w2 := by
  intro w1 w2
  have hs : w1.heap.size = w.heap.size + 1 := by simp [w1]
  have hb : Below w1.heap.size w1 w2 := (Below.refl _ _).alloc (Nat.le_refl _) _
  have hb0 : Below w.heap.size w w1 := (Below.refl _ _).alloc (Nat.le_refl _) _
  obtain ⟨a0, a1⟩ := frac_cells w n d
  obtain ⟨b0, b1⟩ := frac_cells w1 m q
  rw [hs] at b0 b1
  exact ⟨(hb.cell (p := ⟨w.heap.size, 0, none⟩) (by simp [hs])).trans a0, (hb.cell (p := ⟨w.heap.size, 1, none⟩) (by simp [hs])).trans a1, b0, b1, by simp [w2, hs], hb0.trans (hb.mono (by omega))⟩

set_option maxRecDepth 100000 in
set_option maxHeartbeats 4000000 in
theorem coinMore_walk (A : Option Addr) (ca : Nat) (t : List Bool) (n d m q : Int) (w : World) (ht : TP w A ca t) :
    Calls Try.prog 5 #[.slice A t.length ca, frac n d, frac m q] w fun e w' => e = .returned (.bool true) ∧ Below w.heap.size w w' := by
  have FC := frac2_cells w n d m q
  have HC := Lib.hid FC
  have CA := Lib.hid (alive3_any ((w.alloc (.cells #[.int .i64 n, .int .i64 d] 24)).alloc (.cells #[.int .i64 m, .int .i64 q] 24)))
  have HT := Lib.hid ht
  clear ht FC
  unfold frac
  go_enter Try.func5, Try.ntmps5
  go_wp2_with fail
  refine CA.out.mono ?_
  rintro e w1 ⟨rfl, hB1⟩
  generalize (w.alloc (.cells #[.int .i64 n, .int .i64 d] 24)).alloc (.cells #[.int .i64 m, .int .i64 q] 24) = w0 at *
  have hsz := HC.out.2.2.2.2.1
  have a0 := (hB1.cell (p := ⟨w.heap.size, 0, none⟩) (by simp [hsz])).trans HC.out.1
  have a1 := (hB1.cell (p := ⟨w.heap.size, 1, none⟩) (by simp [hsz])).trans HC.out.2.1
  have HB1 := Lib.hid hB1
  have HT1 := Lib.hid ((HT.out.later HC.out.2.2.2.2.2).later hB1)
  have CT := Lib.hid (toss_any A ca t n d w1 HT1.out)
  unfold ftup frac at CT
  clear hB1 CA
  go_wp2_with fail
  refine CT.out.mono ?_
  rintro e w2 ⟨rfl, hB2⟩
  have hB3 : Below w0.heap.size w0 w2 := HB1.out.trans (hB2.mono HB1.out.size)
  have c0 := (hB3.cell (p := ⟨w.heap.size, 0, none⟩) (by simp [hsz])).trans HC.out.1
  have c1 := (hB3.cell (p := ⟨w.heap.size, 1, none⟩) (by simp [hsz])).trans HC.out.2.1
  have c2 := (hB3.cell (p := ⟨w.heap.size + 1, 0, none⟩) (by simp [hsz])).trans HC.out.2.2.1
  have c3 := (hB3.cell (p := ⟨w.heap.size + 1, 1, none⟩) (by simp [hsz])).trans HC.out.2.2.2.1
  have CU := Lib.hid (toss_any A ca t m q w2 (HT1.out.later hB2))
  unfold ftup frac at CU
  have HB3 := Lib.hid hB3
  clear hB2 hB3 CT a0 a1 HT1 HB1
  go_wp2_with fail
  refine CU.out.mono ?_
  rintro e w3 ⟨rfl, hB4⟩
  have hB5 : Below w0.heap.size w0 w3 := HB3.out.trans (hB4.mono HB3.out.size)
  clear c0 c1 c2 c3
  have c0 := (hB5.cell (p := ⟨w.heap.size, 0, none⟩) (by simp [hsz])).trans HC.out.1
  have c1 := (hB5.cell (p := ⟨w.heap.size, 1, none⟩) (by simp [hsz])).trans HC.out.2.1
  have c2 := (hB5.cell (p := ⟨w.heap.size + 1, 0, none⟩) (by simp [hsz])).trans HC.out.2.2.1
  have c3 := (hB5.cell (p := ⟨w.heap.size + 1, 1, none⟩) (by simp [hsz])).trans HC.out.2.2.2.1
  have HB5 : Hid (Below w.heap.size w w3) := HC.out.2.2.2.2.2.trans (hB5.mono (by omega))
  clear hB4 hB5 CU HB3 HC
  rcases toss_cases t n d with ⟨_, e1⟩ | ⟨a, b, rfl, rfl, hb1, hb2, hab, ⟨_, e1⟩ | ⟨y, u, g1, hu, e1⟩⟩
  · simp only [e1]
    go_wp2
    go_ret
    exact ⟨rfl, HB5.out⟩
  · simp only [e1]
    go_wp2
    go_ret
    exact ⟨rfl, HB5.out⟩
  · rcases toss_cases t m q with ⟨_, e2⟩ | ⟨p, r, rfl, rfl, hr1, hr2, hpr, ⟨_, e2⟩ | ⟨z, v, g2, hv, e2⟩⟩
    · simp only [e1, e2]
      go_wp2
      go_ret
      exact ⟨rfl, HB5.out⟩
    · simp only [e1, e2]
      go_wp2
      go_ret
      exact ⟨rfl, HB5.out⟩
    · simp only [e1, e2]
      clear e1 e2
      by_cases k1 : (1073741824 : Int) < b
      · go_wp2
        go_ret
        exact ⟨rfl, HB5.out⟩
      · by_cases k2 : (1073741824 : Int) < r
        · go_wp2
          go_ret
          exact ⟨rfl, HB5.out⟩
        · have g3 : Hid (a * r ≤ p * b → y = true → z = true) := fun h hy => by subst hy; exact tosG_more (by omega) (by omega) hab hpr t h g1 g2
          have g4 : Hid (p * b ≤ a * r → z = true → y = true) := fun h hz => by subst hz; exact tosG_more (by omega) (by omega) hpr hab t h g2 g1
          have m1 : a * r ≤ 1073741824 * 1073741824 := Nat.mul_le_mul (by omega) (by omega)
          have m2 : p * b ≤ 1073741824 * 1073741824 := Nat.mul_le_mul (by omega) (by omega)
          have n1 : (a : Int) * (r : Int) = ((a * r : Nat) : Int) := by simp
          have n2 : (p : Int) * (b : Int) = ((p * b : Nat) : Int) := by simp
          clear g1 g2
          generalize a * r = X at *
          generalize p * b = Y at *
          by_cases hXY : X ≤ Y
          · have g5 := g3.out hXY
            cases y with
            | false =>
              clear g3 g4 g5
              go_wp2
              go_ret
              exact ⟨rfl, HB5.out⟩
            | true =>
              have g6 := g5 rfl
              subst g6
              clear g3 g4 g5
              go_wp2
              go_ret
              exact ⟨rfl, HB5.out⟩
          · have g5 := g4.out (by omega)
            cases z with
            | false =>
              clear g3 g4 g5
              go_wp2
              go_ret
              exact ⟨rfl, HB5.out⟩
            | true =>
              have g6 := g5 rfl
              subst g6
              clear g3 g4 g5
              go_wp2
              go_ret
              exact ⟨rfl, HB5.out⟩
end Go.Proofs.Ytkfpomeemcmfmaa
