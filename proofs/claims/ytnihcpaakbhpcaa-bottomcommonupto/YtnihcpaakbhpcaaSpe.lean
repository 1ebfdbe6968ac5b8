/- slices.breakPatternsOrdered of words: swaps. -/
import Derived.Test.YtnihcpaakbhpcaaSpc
import Derived.Test.YtnihcpaakbhpcaaSpd
namespace Go.Proofs.Ytnihcpaakbhpcaa
open Go.RowKit Go.Deep

set_option maxRecDepth 100000 in
set_option maxHeartbeats 4000000 in
theorem break_any (B g cap n a b : Nat) (l : List W64) (w : World) (hO : OU w B (.slice (some ⟨g, 0, none⟩) n cap) l) (hn : l.length = n) (hB : B ≤ g) (hg : g < w.heap.size) (hab : a + 12 < b) (hb : b ≤ n) (hs : n ≤ 17592186044416) :
    Calls Try.prog 70 #[.slice (some ⟨g, 0, none⟩) n cap, .int .i64 a, .int .i64 b] w (SPost w B (.slice (some ⟨g, 0, none⟩) n cap) a b l fun _ => True) := by
  obtain ⟨L, hL⟩ : ∃ L : Nat, L = b - a := ⟨_, rfl⟩
  obtain ⟨q, hq⟩ : ∃ q : Nat, q = L / 4 := ⟨_, rfl⟩
  obtain ⟨q2, hq2⟩ : ∃ q2 : Nat, q2 = q * 2 := ⟨_, rfl⟩
  obtain ⟨i0, hi0⟩ : ∃ i0 : Nat, i0 = a + q2 := ⟨_, rfl⟩
  have e1 : (b : Int) - (a : Int) = (L : Int) := by omega
  have e2 : IntKind.i64.wrap (L : Int) = (L : Int) := IntWalk.i64_in _ (by omega)
  have e3 : IntKind.u64.wrap (L : Int) = (L : Int) := by rw [IntKind.wrap_u64]; omega
  have e5 : Int.tdiv (L : Int) 4 = (q : Int) := by rw [hq]; simp
  have e6 : IntKind.i64.wrap (q : Int) = (q : Int) := IntWalk.i64_in _ (by omega)
  have e7 : (q : Int) * 2 = (q2 : Int) := by omega
  have e9 : IntKind.i64.wrap (q2 : Int) = (q2 : Int) := IntWalk.i64_in _ (by omega)
  have e12 : (a : Int) + (q2 : Int) = (i0 : Int) := by omega
  have e15 : IntKind.i64.wrap (i0 : Int) = (i0 : Int) := IntWalk.i64_in _ (by omega)
  have d1 : decide ((8 : Int) ≤ (L : Int)) = true := decide_eq_true (by omega)
  have HH := Lib.hid (show L = b - a ∧ a + 1 ≤ i0 ∧ i0 + 1 < b by omega)
  have KP := Lib.hid (npow_any L (by omega) (by omega))
  obtain ⟨x0, hx0⟩ : ∃ x0 : W64, (x0.toNat : Int) = (L : Int) := ⟨BitVec.ofNat 64 L, by rw [BitVec.toNat_ofNat, Nat.mod_eq_of_lt (by omega)]⟩
  have HX0 : Hid (∀ W, Boxed W w.heap.size 96 (.int .u64 (L : Int)) → Boxed W w.heap.size 96 (.int .u64 (x0.toNat : Int))) := fun W h => by rw [hx0]; exact h
  clear hL hq hq2 hi0 hx0
  have h0a := HH.out.2.1
  have h0b := HH.out.2.2
  have HO := Lib.hid hO
  have HN := Lib.hid hn
  have HGB := Lib.hid hB
  have HG := Lib.hid hg
  clear hO hn hB hg
  go_enter Try.func70, Try.ntmps70
  go_wp2_with fail
  obtain ⟨P, hP⟩ : ∃ P, P = w.heap.size := ⟨_, rfl⟩
  have HW1 := Lib.hid (show Boxed (w.alloc (.cells #[.int .u64 (L : Int)] 96)) P 96 (.int .u64 (x0.toNat : Int)) by rw [hP]; exact HX0.out _ (Boxed.new w _ _))
  have HGP : Hid (g < P) := by rw [hP]; exact HG.out
  have HBP : Hid (B ≤ P) := by have := HGP.out; have := HGB.out; show _ ≤ _; omega
  have HBA := Lib.hid (show Below P w (w.alloc (.cells #[.int .u64 (L : Int)] 96)) by rw [hP]; exact (Below.refl _ _).alloc (Nat.le_refl _) _)
  rw [← hP]
  refine (KP.out _).mono ?_
  rintro e w1 ⟨m, hm0, hm1, rfl, hw1⟩
  rw [← hw1] at HW1 HBA
  clear hw1 hP KP HX0 HG
  obtain ⟨M, hM⟩ : ∃ M : W64, (m : Int) - 1 = (M.toNat : Int) := ⟨BitVec.ofNat 64 (m - 1), by rw [BitVec.toNat_ofNat, Nat.mod_eq_of_lt (by omega)]; omega⟩
  have HV : Hid (∀ k, (Value.slice (some ⟨g, 0, none⟩) n cap).ownBlock = some k → k < P) := fun k hk => by cases hk; exact HGP.out
  go_wp2_with fail
  go_loopw [9] (fun iv wr => ∃ (i : Nat) (x : W64) (l' : List W64), i0 ≤ i + 1 ∧ i ≤ i0 + 2 ∧ iv = .int .i64 i ∧ Sw a b l l' ∧ OU wr B (.slice (some ⟨g, 0, none⟩) n cap) l' ∧ Below B w wr ∧ Boxed wr P 96 (.int .u64 (x.toNat : Int))) (fun iv _ => i0 + 2 - (intOf iv).toNat)
  case atStart => exact ⟨i0 - 1, x0, l, by omega, by omega, by have := HH.out; go_num, .refl _, HO.out.low HV.out HBA.out, HBA.out.mono HBP.out, HW1.out⟩
  case round =>
    clear HO HBA HW1
    obtain ⟨i, x, l1, hi1, hi2, rfl, hS, hO1, hb1, hx⟩ := hrel
    have HS := Lib.hid hS
    have HO1 := Lib.hid hO1
    have HB1 := Lib.hid hb1
    have KN := Lib.hid (next_any P x wr hx)
    have HL := Lib.hid (hS.len.trans HN.out)
    clear hS hO1 hb1 hx
    by_cases hlt : i ≤ i0 + 1
    · have d2 : decide ((i : Int) ≤ (i0 : Int) + 1) = true := decide_eq_true (by omega)
      go_wp2_with fail
      refine KN.out.mono ?_
      rintro e w5 ⟨y, rfl, hy, hb5⟩
      have HY := Lib.hid hy
      have HO2 := Lib.hid (HO1.out.low HV.out hb5)
      have HB2 := Lib.hid (HB1.out.trans (hb5.mono HBP.out))
      clear hy hb5 HO1 HB1
      obtain ⟨o, ho⟩ : ∃ o : Nat, o = (y &&& M).toNat := ⟨_, rfl⟩
      have e20 : bits .and .u64 (y.toNat : Int) (M.toNat : Int) = (o : Int) := by rw [and_w, ho]
      have hoM : o < 2 * L := by
        have h7 : (y &&& M).toNat ≤ M.toNat := by rw [BitVec.toNat_and]; exact Nat.and_le_right
        omega
      have e21 : IntKind.i64.wrap (o : Int) = (o : Int) := IntWalk.i64_in _ (by have := HH.out; omega)
      clear ho
      have hLb : L = b - a := HH.out.1
      have HLb := Lib.hid hLb
      have KT := Lib.hid (fun (u : Nat) (h1 : a ≤ u) (h2 : u < b) => show _ ∧ _ ∧ _ ∧ _ ∧ _ ∧ _ ∧ _ from ⟨OU.swapF (w := w5) (i := i) (j := u) HO2.out (by have := HL.out; omega) (by have := HL.out; omega), HO2.out.at (i := i) (by have := HL.out; omega), HO2.out.at (i := u) (by have := HL.out; omega), HO2.out.frozen i, HO2.out.frozen u, HO2.out.swap i u, HS.out.step (i := i) (j := u) (by omega) (by omega) h1 h2 (by have := HL.out; omega)⟩)
      have i1 : (i : Int) < (n : Int) := by omega
      by_cases hol : L ≤ o
      · have d3 : decide ((L : Int) ≤ (o : Int)) = true := decide_eq_true (by omega)
        obtain ⟨o2, ho2⟩ : ∃ o2 : Nat, o2 = o - L := ⟨_, rfl⟩
        have e22 : (o : Int) - (L : Int) = (o2 : Int) := by omega
        have e23 : IntKind.i64.wrap (o2 : Int) = (o2 : Int) := IntWalk.i64_in _ (by omega)
        obtain ⟨u, hu⟩ : ∃ u : Nat, u = a + o2 := ⟨_, rfl⟩
        have hub : u < b := by omega
        have e24 : (a : Int) + (o2 : Int) = (u : Int) := by omega
        have e25 : IntKind.i64.wrap (u : Int) = (u : Int) := IntWalk.i64_in _ (by omega)
        have i2 : (u : Int) < (n : Int) := by omega
        obtain ⟨hF, c1, c2, f1, f3, hO3, hS3⟩ := KT.out u (by omega) hub
        have HF := Lib.hid hF
        have HO3 := Lib.hid hO3
        have HS3 := Lib.hid hS3
        clear hu hub hLb KT hF hO3 hS3 HS
        try clear ho2
        generalize sw l1 i u = l3 at *
        generalize l1.getD i 0 = z at *
        generalize l1.getD u 0 = v at *
        go_wp2_with fail
        obtain ⟨_, _, _, f2, yy, c3⟩ := HF.out
        go_region
        have HY2 : Hid (Boxed (((w5.setCell ⟨g, i, none⟩ (.int .u64 (v.toNat : Int))).setCell ⟨g, u, none⟩ (.int .u64 (z.toNat : Int))).drew) P 96 (.int .u64 (y.toNat : Int))) := (heap_setCell_other _ ⟨g, u, none⟩ P _ (by have := HGP.out; show P ≠ g; omega)).trans ((heap_setCell_other _ ⟨g, i, none⟩ P _ (by have := HGP.out; show P ≠ g; omega)).trans HY.out)
        go_wp2
        go_roundw
        case rel => exact ⟨i + 1, y, l3, by omega, by omega, by go_num, HS3.out, HO3.out, (below_swap HB2.out HGB.out _ _ _ _).drew, HY2.out⟩
        case measure => simp [intOf]; omega
      · have d3 : decide ((L : Int) ≤ (o : Int)) = false := decide_eq_false (by omega)
        obtain ⟨u, hu⟩ : ∃ u : Nat, u = a + o := ⟨_, rfl⟩
        have hub : u < b := by omega
        have e24 : (a : Int) + (o : Int) = (u : Int) := by omega
        have e25 : IntKind.i64.wrap (u : Int) = (u : Int) := IntWalk.i64_in _ (by omega)
        have i2 : (u : Int) < (n : Int) := by omega
        obtain ⟨hF, c1, c2, f1, f3, hO3, hS3⟩ := KT.out u (by omega) hub
        have HF := Lib.hid hF
        have HO3 := Lib.hid hO3
        have HS3 := Lib.hid hS3
        clear hu hub hLb KT hF hO3 hS3 HS
        try clear ho2
        generalize sw l1 i u = l3 at *
        generalize l1.getD i 0 = z at *
        generalize l1.getD u 0 = v at *
        go_wp2_with fail
        obtain ⟨_, _, _, f2, yy, c3⟩ := HF.out
        go_region
        have HY2 : Hid (Boxed (((w5.setCell ⟨g, i, none⟩ (.int .u64 (v.toNat : Int))).setCell ⟨g, u, none⟩ (.int .u64 (z.toNat : Int))).drew) P 96 (.int .u64 (y.toNat : Int))) := (heap_setCell_other _ ⟨g, u, none⟩ P _ (by have := HGP.out; show P ≠ g; omega)).trans ((heap_setCell_other _ ⟨g, i, none⟩ P _ (by have := HGP.out; show P ≠ g; omega)).trans HY.out)
        go_wp2
        go_roundw
        case rel => exact ⟨i + 1, y, l3, by omega, by omega, by go_num, HS3.out, HO3.out, (below_swap HB2.out HGB.out _ _ _ _).drew, HY2.out⟩
        case measure => simp [intOf]; omega
    · have d2 : decide ((i : Int) ≤ (i0 : Int) + 1) = false := decide_eq_false (by omega)
      go_wp2
      go_end0
      exact ⟨l1, rfl, HS.out, trivial, HO1.out, HB1.out⟩
end Go.Proofs.Ytnihcpaakbhpcaa
