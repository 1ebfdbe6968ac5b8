/- WalkCounts' wants: what the reference answers. -/
import Derived.Test.YtojoecoocbjgaaaWk9
namespace Go.Proofs.Ytojoecoocbjgaaa
open Go.RowKit Go.Deep Go.Maps

/-- 'm[x]' as an equation. -/
theorem FnM.run_look {w : World} {b n : Nat} {lo hi : Int} {F : Int → Int} (h : FnM w b n lo hi F) {y : Int} (hy : wfi y) : (Instr.lookup 32 (.map (some b)) (.int .i64 y) false).run Try.prog w = .ok (.int .i64 (F y)) w := by
  obtain ⟨D, hD, hF⟩ := h
  obtain ⟨c, hrun, hat, hw⟩ := hD.lookup_int lawQ Try.underlying32 Try.underlying3 (zeroQ w) (keyQ hy)
  rw [hF.look y hy] at hat
  injection hat with hat
  injection hat with _ hat
  subst hat
  exact hrun
theorem wfi_hgt {x : Int} (h : hgt x) : wfi x := wfi_of (by have := h.1; have := h.2; omega)

set_option maxRecDepth 100000 in
set_option maxHeartbeats 1000000 in
theorem q3_any (n : Nat) (z : Int) (gn ga gt : Nat) (w : World) (hn : n ≤ 56) (hz : hgt z) (h1 : w.cell? ⟨gn, 0, none⟩ = some (.int .i64 (n : Int))) (h2 : w.cell? ⟨ga, 0, none⟩ = some (.func (.func 15) #[] #[])) (h3 : w.cell? ⟨gt, 0, none⟩ = some (.int .i64 z))
    (l1 : gn < w.heap.size) (l2 : ga < w.heap.size) (l3 : gt < w.heap.size) :
    Calls Try.prog 17 #[.pointer (some ⟨gn, 0, none⟩), .pointer (some ⟨ga, 0, none⟩), .pointer (some ⟨gt, 0, none⟩)] w fun e w' => e = .returned (.int .i64 (ways mayAll 0 n z)) ∧ Below w.heap.size w w' := by
  have CT := Lib.hid (fun w => qways_any 15 #[] mayAll n 0 w hn (by decide) enters_q2 (fun wx s h _ _ => q2_any s h wx))
  have HZ := Lib.hid (wfi_hgt hz)
  have HL : Hid (gn < w.heap.size ∧ ga < w.heap.size ∧ gt < w.heap.size) := ⟨l1, l2, l3⟩
  clear l1 l2 l3 hz
  go_enter Try.func17, Try.ntmps17
  go_wp2_with fail
  go_region_held3 (fun w' => w'.cell? ⟨gn, 0, none⟩ = some (.int .i64 (n : Int)) ∧ w'.cell? ⟨ga, 0, none⟩ = some (.func (.func 15) #[] #[]) ∧ w'.cell? ⟨gt, 0, none⟩ = some (.int .i64 z)) (go_keep)
    (first | (go_at_call 18; refine (CT.out _).mono ?_; rintro e w2 ⟨g, m, rfl, hM, hb2⟩; have f0 := (hb2.cell (p := ⟨gn, 0, none⟩) HL.out.1).trans h1; have f1 := (hb2.cell (p := ⟨ga, 0, none⟩) HL.out.2.1).trans h2; have f2 := (hb2.cell (p := ⟨gt, 0, none⟩) HL.out.2.2).trans h3; have hrun := hM.run_look HZ.out; have HB2 := Lib.hid hb2; clear hb2 hM))
  go_wp2
  go_ret
  exact ⟨rfl, (Below.refl _ w).drew.trans HB2.out⟩

set_option maxRecDepth 100000 in
set_option maxHeartbeats 1000000 in
theorem q4_any (n : Nat) (a z : Int) (gn ga gt : Nat) (w : World) (hn : n ≤ 56) (hz : hgt z) (ha : hgt a) (h1 : w.cell? ⟨gn, 0, none⟩ = some (.int .i64 (n : Int))) (h2 : w.cell? ⟨ga, 0, none⟩ = some (.int .i64 a)) (h3 : w.cell? ⟨gt, 0, none⟩ = some (.int .i64 z))
    (l1 : gn < w.heap.size) (l2 : ga < w.heap.size) (l3 : gt < w.heap.size) :
    Calls Try.prog 19 #[.pointer (some ⟨gn, 0, none⟩), .pointer (some ⟨ga, 0, none⟩), .pointer (some ⟨gt, 0, none⟩)] w fun e w' => e = .returned (.int .i64 (above n a z)) ∧ Below w.heap.size w w' := by
  have CT := Lib.hid (fun w => qways_any 20 #[] mayUp n a w hn (by have := ha.1; have := ha.2; omega) enters_q41 (fun wx s h _ _ => q41_any s h wx))
  have HZ := Lib.hid (wfi_hgt hz)
  have HL : Hid (gn < w.heap.size ∧ ga < w.heap.size ∧ gt < w.heap.size) := ⟨l1, l2, l3⟩
  clear l1 l2 l3 hz ha
  go_enter Try.func19, Try.ntmps19
  go_wp2_with fail
  go_region_held3 (fun w' => w'.cell? ⟨gn, 0, none⟩ = some (.int .i64 (n : Int)) ∧ w'.cell? ⟨ga, 0, none⟩ = some (.int .i64 a) ∧ w'.cell? ⟨gt, 0, none⟩ = some (.int .i64 z)) (go_keep)
    (first | (go_at_call 18; refine (CT.out _).mono ?_; rintro e w2 ⟨g, m, rfl, hM, hb2⟩; have f0 := (hb2.cell (p := ⟨gn, 0, none⟩) HL.out.1).trans h1; have f1 := (hb2.cell (p := ⟨ga, 0, none⟩) HL.out.2.1).trans h2; have f2 := (hb2.cell (p := ⟨gt, 0, none⟩) HL.out.2.2).trans h3; have hrun := hM.run_look HZ.out; have HB2 := Lib.hid hb2; clear hb2 hM))
  go_wp2
  go_ret
  exact ⟨rfl, (Below.refl _ w).drew.trans HB2.out⟩

set_option maxRecDepth 100000 in
set_option maxHeartbeats 1000000 in
theorem q5_any (n : Nat) (a t z : Int) (gn ga gT gt : Nat) (w : World) (hn : n ≤ 56) (hz : hgt z) (ha : hgt a) (h1 : w.cell? ⟨gn, 0, none⟩ = some (.int .i64 (n : Int))) (h2 : w.cell? ⟨ga, 0, none⟩ = some (.int .i64 a)) (h3 : w.cell? ⟨gt, 0, none⟩ = some (.int .i64 z)) (h4 : w.cell? ⟨gT, 0, none⟩ = some (.int .i64 t))
    (l1 : gn < w.heap.size) (l2 : ga < w.heap.size) (l3 : gt < w.heap.size) (l4 : gT < w.heap.size) :
    Calls Try.prog 21 #[.pointer (some ⟨gn, 0, none⟩), .pointer (some ⟨ga, 0, none⟩), .pointer (some ⟨gT, 0, none⟩), .pointer (some ⟨gt, 0, none⟩)] w fun e w' => e = .returned (.int .i64 (bet t n a z)) ∧ Below w.heap.size w w' := by
  have CT := Lib.hid (fun (w : World) (hc : w.cell? ⟨gT, 0, none⟩ = some (.int .i64 t)) (hl : gT < w.heap.size) => qways_any 22 #[.pointer (some ⟨gT, 0, none⟩)] (mayIn t) n a w hn (by have := ha.1; have := ha.2; omega) enters_q51 (fun wx s h _ hb => q51_any gT t s h wx ((hb.cell (p := ⟨gT, 0, none⟩) hl).trans hc)))
  have HZ := Lib.hid (wfi_hgt hz)
  have HL : Hid (gn < w.heap.size ∧ ga < w.heap.size ∧ gt < w.heap.size) := ⟨l1, l2, l3⟩
  have HT : Hid (w.cell? ⟨gT, 0, none⟩ = some (.int .i64 t) ∧ gT < w.heap.size) := ⟨h4, l4⟩
  clear l1 l2 l3 l4 hz ha h4
  go_enter Try.func21, Try.ntmps21
  go_wp2_with fail
  go_region_held3 (fun w' => w'.cell? ⟨gn, 0, none⟩ = some (.int .i64 (n : Int)) ∧ w'.cell? ⟨ga, 0, none⟩ = some (.int .i64 a) ∧ w'.cell? ⟨gt, 0, none⟩ = some (.int .i64 z)) (go_keep)
    (first | (go_at_call 18; refine (CT.out w.drew HT.out.1 HT.out.2).mono ?_; rintro e w2 ⟨g, m, rfl, hM, hb2⟩; have f0 := (hb2.cell (p := ⟨gn, 0, none⟩) HL.out.1).trans h1; have f1 := (hb2.cell (p := ⟨ga, 0, none⟩) HL.out.2.1).trans h2; have f2 := (hb2.cell (p := ⟨gt, 0, none⟩) HL.out.2.2).trans h3; have hrun := hM.run_look HZ.out; have HB2 := Lib.hid hb2; clear hb2 hM))
  go_wp2
  go_ret
  exact ⟨rfl, (Below.refl _ w).drew.trans HB2.out⟩

set_option maxRecDepth 100000 in
set_option maxHeartbeats 1000000 in
theorem q6_any (n : Nat) (gn : Nat) (w : World) (hn : n ≤ 56) (h1 : w.cell? ⟨gn, 0, none⟩ = some (.int .i64 (n : Int))) (l1 : gn < w.heap.size) :
    Calls Try.prog 23 #[.pointer (some ⟨gn, 0, none⟩)] w fun e w' => e = .returned (.int .i64 (fstZ n)) ∧ Below w.heap.size w w' := by
  by_cases h0 : n = 0
  · subst h0
    rw [show fstZ 0 = 0 from rfl]
    rw [show ((0 : Nat) : Int) = 0 by rfl] at h1
    go_enter Try.func23, Try.ntmps23
    go_wp2
    go_ret
    exact ⟨rfl, Below.refl _ _⟩
  have e0 : fstZ n = ways (mayFst n) 0 n 0 := if_neg h0
  rw [e0]
  have CT := Lib.hid (qways_any 24 #[.pointer (some ⟨gn, 0, none⟩)] (mayFst n) n 0 w hn (by decide) enters_q61 (fun wx s h _ hb => q61_any gn n s h wx ((hb.cell (p := ⟨gn, 0, none⟩) l1).trans h1)))
  have HZ : Hid (wfi 0) := wfi_of (by decide)
  have hne : ¬ (n : Int) = 0 := by omega
  clear e0 h0 l1
  go_enter Try.func23, Try.ntmps23
  go_wp2_with fail
  refine (CT.out).mono ?_
  rintro e w2 ⟨g, m, rfl, hM, hb2⟩
  have hrun := hM.run_look HZ.out
  have HB2 := Lib.hid hb2
  clear hb2 hM CT
  go_wp2
  go_ret
  exact ⟨rfl, HB2.out⟩

set_option maxRecDepth 100000 in
set_option maxHeartbeats 1000000 in
theorem q7_any (n : Nat) (gn : Nat) (w : World) (hn : n ≤ 28) (h1 : w.cell? ⟨gn, 0, none⟩ = some (.int .i64 (n : Int))) :
    Calls Try.prog 25 #[.pointer (some ⟨gn, 0, none⟩)] w fun e w' => e = .returned (.int .i64 (cat n)) ∧ Below w.heap.size w w' := by
  have CT := Lib.hid (qways_any 26 #[] mayOn (2 * n) 0 w (by omega) (by decide) enters_q71 (fun wx s h _ _ => q71_any s h wx))
  have HZ : Hid (wfi 0) := wfi_of (by decide)
  rw [show ((2 * n : Nat) : Int) = 2 * (n : Int) by omega] at CT
  go_enter Try.func25, Try.ntmps25
  go_wp2_with fail
  refine (CT.out).mono ?_
  rintro e w2 ⟨g, m, rfl, hM, hb2⟩
  have hrun := hM.run_look HZ.out
  have HB2 := Lib.hid hb2
  clear hb2 hM CT
  go_wp2
  go_ret
  exact ⟨rfl, HB2.out⟩
end Go.Proofs.Ytojoecoocbjgaaa
