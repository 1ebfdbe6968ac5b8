/- lotdrawerlaw.CoinTells: the walk. -/
import Derived.Test.YtkfpomeemcmfmaaR4
namespace Go.Proofs.Ytkfpomeemcmfmaa
open Go.RowKit

set_option maxRecDepth 100000 in
set_option maxHeartbeats 8000000 in
theorem coinTells_walk (A B : Option Addr) (ca cb : Nat) (t : List Bool) (n d : Int) (l : List Int) (w : World) (ht : TP w A ca t) (hsm : ca ≤ 140737488351232) (hl : IP w B cb l) :
    Calls Try.prog 3 #[.slice A t.length ca, frac n d, .slice B l.length cb] w fun e w' => e = .returned (.bool true) ∧ Below w.heap.size w w' := by
  have HC := Lib.hid (frac_cells w n d)
  have hB0 : Below w.heap.size w (w.alloc (.cells #[.int .i64 n, .int .i64 d] 24)) := (Below.refl _ _).alloc (Nat.le_refl _) _
  have hsz : (w.alloc (.cells #[.int .i64 n, .int .i64 d] 24)).heap.size = w.heap.size + 1 := by simp
  have hle := ht.le
  have HT := Lib.hid (ht.later hB0)
  have HL := Lib.hid (hl.later hB0)
  have HB0 := Lib.hid hB0
  have HM : Hid (t.length ≤ 140737488351232) := by show t.length ≤ _; omega
  have HW : Hid (∀ W, Below (w.heap.size + 1) (w.alloc (.cells #[.int .i64 n, .int .i64 d] 24)) W → W.cell? ⟨w.heap.size, 0, none⟩ = some (.int .i64 n) ∧ W.cell? ⟨w.heap.size, 1, none⟩ = some (.int .i64 d)) := fun W hb => ⟨(hb.cell (p := ⟨w.heap.size, 0, none⟩) (by simp)).trans HC.out.1, (hb.cell (p := ⟨w.heap.size, 1, none⟩) (by simp)).trans HC.out.2⟩
  have CA := Lib.hid (toss_any A ca t n d _ HT.out)
  clear ht hl hB0 hle
  unfold frac at *
  unfold ftup at CA
  generalize hr : toss t n d = r at *
  go_enter Try.func3, Try.ntmps3
  go_wp2_with fail
  refine CA.out.mono ?_
  rintro e w1 ⟨rfl, hB1⟩
  generalize w.alloc (.cells #[.int .i64 n, .int .i64 d] 24) = w0 at *
  have fin : Hid (∀ W, Below w0.heap.size w0 W → Below w.heap.size w W) := fun W h => HB0.out.trans (h.mono HB0.out.size)
  have HX : Hid (∀ W, Below w0.heap.size w0 W → W.cell? ⟨w.heap.size, 0, none⟩ = some (.int .i64 n) ∧ W.cell? ⟨w.heap.size, 1, none⟩ = some (.int .i64 d)) := fun W h => HW.out W (by rw [← hsz]; exact h)
  have hc := HX.out w1 hB1
  have c0 := hc.1
  have c1 := hc.2
  have CB := ctoss_any A ca t n d w1 (HT.out.later hB1) HM.out
  rw [hr] at CB
  have CB := Lib.hid CB
  unfold ftup frac at CB
  have HB1 := Lib.hid hB1
  clear hB1 hc CA HW hr
  go_wp2_with fail
  refine CB.out.mono ?_
  rintro e w2 ⟨rfl, hb⟩
  have hB2 : Below w0.heap.size w0 w2 := HB1.out.trans (hb.mono HB1.out.size)
  clear c0 c1 CB hb HB1
  obtain ⟨c0, c1⟩ := HX.out w2 hB2
  have CC := Lib.hid (turn_any A ca t n d w2 (HT.out.later hB2))
  unfold tup frac at CC
  have HB2 := Lib.hid hB2
  clear hB2
  generalize hq : turn t n d = q at *
  go_wp2_with fail
  refine CC.out.mono ?_
  rintro e w3 ⟨rfl, hb⟩
  have hB3 : Below w0.heap.size w0 w3 := HB2.out.trans (hb.mono HB2.out.size)
  clear c0 c1 CC hb HB2
  obtain ⟨c0, c1⟩ := HX.out w3 hB3
  have CD := cturn_any A ca t n d w3 (HT.out.later hB3) HM.out
  rw [hq] at CD
  have CD := Lib.hid CD
  unfold tup frac at CD
  have HB3 := Lib.hid hB3
  clear hB3 hq
  go_wp2_with fail
  refine CD.out.mono ?_
  rintro e w4 ⟨rfl, hb⟩
  have hB4 : Below w0.heap.size w0 w4 := HB3.out.trans (hb.mono HB3.out.size)
  clear c0 c1 CD hb HB3
  have CE := Lib.hid (of_any A B ca cb t l w4 (HT.out.later hB4) (HL.out.later hB4))
  unfold tup at CE
  have HB4 := Lib.hid hB4
  clear hB4
  generalize hs : off t l = s at *
  go_wp2_with fail
  refine CE.out.mono ?_
  rintro e w5 ⟨rfl, hb⟩
  have hB5 : Below w0.heap.size w0 w5 := HB4.out.trans (hb.mono HB4.out.size)
  clear CE hb HB4
  have CF := cof_any A B ca cb t l w5 (HT.out.later hB5) HM.out (HL.out.later hB5)
  rw [hs] at CF
  have CF := Lib.hid CF
  unfold tup at CF
  have HB5 := Lib.hid hB5
  clear hB5 hs
  go_wp2_with fail
  refine CF.out.mono ?_
  rintro e w6 ⟨rfl, hb⟩
  have hB6 : Below w0.heap.size w0 w6 := HB5.out.trans (hb.mono HB5.out.size)
  clear CF hb HB5
  obtain ⟨c0, c1⟩ := HX.out w6 hB6
  have d0 : w6.drew.cell? ⟨w.heap.size, 0, none⟩ = some (.int .i64 n) := c0
  have d1 : w6.drew.cell? ⟨w.heap.size, 1, none⟩ = some (.int .i64 d) := c1
  have hlb : w.heap.size < w6.drew.heap.size := by show w.heap.size < w6.heap.size; have := hB6.size; omega
  have CG := Lib.hid (fun W => right_any n d W)
  have CH := Lib.hid (fun W => cright_any n d W)
  unfold frac at CG CH
  have HB6 : Hid (Below w0.heap.size w0 w6.drew) := hB6.drew
  have D := Lib.hid hlb
  clear hB6 d0 d1 hlb
  generalize rgt n d = g at *
  obtain ⟨r1, r2, r3⟩ := r
  obtain ⟨q1, q2, q3⟩ := q
  obtain ⟨s1, s2, s3⟩ := s
  go_wp2_with fail
  go_region_held3 (fun w' => w'.cell? ⟨w.heap.size, 0, none⟩ = some (.int .i64 n) ∧ w'.cell? ⟨w.heap.size, 1, none⟩ = some (.int .i64 d)) (go_keep)
    (first
      | (go_at_call 15; refine (CG.out _).mono ?_; rintro e w7 ⟨rfl, hb7⟩; have HB7 := Lib.hid (HB6.out.trans (hb7.mono HB6.out.size)); have f := HX.out _ HB7.out; have f0 := f.1; have f1 := f.2; clear f hb7)
      | (go_at_call 16; refine (CH.out _).mono ?_; rintro e w8 ⟨rfl, hb8⟩; have HB8 := Lib.hid (HB7.out.trans (hb8.mono HB7.out.size)); have g := HX.out _ HB8.out; have g0 := g.1; have g1 := g.2; clear g hb8))
  have HB9 := Lib.hid (fin.out _ HB8.out)
  clear HB7 HB8 CG CH HX HB6
  go_wp2
  go_ret
  exact ⟨rfl, HB9.out⟩
end Go.Proofs.Ytkfpomeemcmfmaa
