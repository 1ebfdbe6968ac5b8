/- lotdrawerref.PBoth. -/
import Derived.Test.YtclfimpcacoefaaMo7
namespace Go.Proofs.Ytclfimpcacoefaa
open Go.RowKit Go.Deep

set_option maxRecDepth 100000 in
set_option maxHeartbeats 2000000 in
theorem pboth_any (A B : Option Addr) (ca cb : Nat) (x y : List Int) (w : World) (hx : IP w A ca x) (hy : IP w B cb y) (ox : okl x) (oy : okl y) (h0 : x.length = y.length) :
    Calls Try.prog 19 #[.slice A x.length ca, .slice B y.length cb] w fun e w' => e = .returned (.int .i64 (cov x y)) ∧ Below w.heap.size w w' := by
  have hle := hx.le
  have hcap := hx.cap
  have hle2 := hy.le
  have hcap2 := hy.cap
  have h4 := ox.1
  have HX := Lib.hid hx
  have HY := Lib.hid hy
  have OX := Lib.hid ox
  have OY := Lib.hid oy
  have H0 := Lib.hid h0
  clear hx hy ox oy h0
  go_enter Try.func19, Try.ntmps19
  go_wp2
  go_loopw [5, 10] (fun i b wr => ∃ k : Nat, k ≤ x.length ∧ i = .int .i64 (cov (x.take k) (y.take k)) ∧ b = .int .i64 k ∧ Below w.heap.size w wr) (fun _ i _ => x.length - (intOf i).toNat)
  case atStart => exact ⟨0, by omega, by simp [cov, sxy, ssum], rfl, Below.refl _ _⟩
  case round =>
    obtain ⟨k, hk, rfl, rfl, hB⟩ := hrel
    have HB := Lib.hid hB
    clear hB
    by_cases hlt : k < x.length
    · have hlt2 : k < y.length := by have := H0.out; omega
      have HS := Lib.hid (cov_take x y H0.out hlt)
      have hcb := cov_bd2 H0.out OX.out.2 OY.out.2 h4 k (by omega)
      have hpb := Lib.hid (fun j (hj : j ≤ k) => prow2_bd2 H0.out OX.out.2 OY.out.2 h4 k j hlt hj)
      have hps := Lib.hid (fun j (hj : j < k) => prow2_succ (x := x.getD k 0) (y := y.getD k 0) (a := x.take k) (b := y.take k) (j := j) (by rw [List.length_take, List.length_take]; have := H0.out; omega) (by rw [List.length_take]; omega))
      have bx := sin_at OX.out.2 hlt
      have by' := sin_at OY.out.2 hlt2
      obtain ⟨C, hC⟩ : ∃ C, cov (x.take k) (y.take k) = C := ⟨_, rfl⟩
      rw [hC] at hcb HS ⊢
      clear hC
      obtain ⟨wa, hwa⟩ : ∃ wa, wa = wr := ⟨_, rfl⟩
      subst hwa
      go_wp2
      go_loopw [5, 14] (fun i b wr => ∃ j : Nat, j ≤ k ∧ i = .int .i64 (C + prow2 (x.getD k 0) (y.getD k 0) (x.take j) (y.take j)) ∧ b = .int .i64 j ∧ Below w.heap.size w wr) (fun _ i _ => k - (intOf i).toNat)
      case atStart => exact ⟨0, by omega, by simp [prow2], rfl, HB.out⟩
      case round =>
        clear HB
        obtain ⟨j, hj, rfl, rfl, hB⟩ := hrel
        have HB := Lib.hid hB
        clear hB
        by_cases hjl : j < k
        · obtain ⟨b1, o1, rfl, _, hcx⟩ := (HX.out.later HB.out).il.at (by omega)
          obtain ⟨b2, o2, rfl, _, hcy⟩ := (HY.out.later HB.out).il.at (by omega)
          have d1 := hcx k hlt
          have d2 := hcy k hlt2
          have d3 := hcx j (by omega)
          have d4 := hcy j (by omega)
          have i1 : (k : Int) < (x.length : Int) := by omega
          have i2 : (k : Int) < (y.length : Int) := by omega
          have i3 : (j : Int) < (x.length : Int) := by omega
          have i4 : (j : Int) < (y.length : Int) := by omega
          have HP : Hid (prow2 (x.getD k 0) (y.getD k 0) (x.take (j + 1)) (y.take (j + 1)) = prow2 (x.getD k 0) (y.getD k 0) (x.take j) (y.take j) + (x.getD k 0 - x.getD j 0) * (y.getD k 0 - y.getD j 0)) := prow2_succ H0.out (by omega)
          have bp := hpb.out j hj
          have bx2 := sin_at OX.out.2 (k := j) (by omega)
          have by2 := sin_at OY.out.2 (k := j) (by omega)
          have bm := dif_bd bx bx2 by' by2
          clear hcx hcy
          generalize prow2 (x.getD k 0) (y.getD k 0) (x.take j) (y.take j) = P at *
          generalize x.getD k 0 = a at *
          generalize y.getD k 0 = b at *
          generalize x.getD j 0 = c at *
          generalize y.getD j 0 = d at *
          have e0 : IntKind.i64.wrap (a - c) = a - c := IntWalk.i64_in _ (by omega)
          have e0' : IntKind.i64.wrap (b - d) = b - d := IntWalk.i64_in _ (by omega)
          have e1 : IntKind.i64.wrap ((a - c) * (b - d)) = (a - c) * (b - d) := IntWalk.i64_in _ (by omega)
          have e2 : IntKind.i64.wrap (C + P + (a - c) * (b - d)) = C + P + (a - c) * (b - d) := IntWalk.i64_in _ (by omega)
          go_wp2
          go_quiet (fail)
          go_wp2
          go_roundw
          case rel => exact ⟨j + 1, by omega, by rw [HP.out, ← Int.add_assoc], by go_num, below_drewN HB.out _⟩
          case measure => simp [intOf]; omega
        · obtain rfl : j = k := by omega
          go_wp2
          go_roundw
          case rel => exact ⟨j + 1, by omega, by rw [HS.out], by go_num, HB.out⟩
          case measure => simp [intOf]; omega
    · obtain rfl : k = x.length := by omega
      have R : Hid (cov (x.take x.length) (y.take x.length) = cov x y) := by
        show _ = _
        rw [List.take_length, H0.out, List.take_length]
      go_wp2
      go_ret
      exact ⟨by rw [← R.out]; rfl, HB.out⟩
end Go.Proofs.Ytclfimpcacoefaa
