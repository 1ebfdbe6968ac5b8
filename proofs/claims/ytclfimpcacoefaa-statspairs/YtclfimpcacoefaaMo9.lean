/- lotdrawerref.PSpread. -/
import Derived.Test.YtclfimpcacoefaaMo7
namespace Go.Proofs.Ytclfimpcacoefaa
open Go.RowKit Go.Deep

theorem spr_cov (l : List Int) : spr l = cov l l := (cov_self l).symm
/-- l[:k]. -/
theorem head_ip {A : Option Addr} {ca : Nat} {l : List Int} {w : World} (h : IP w A ca l) (k : Nat) : IP w A ca (l.take k) :=
  ⟨by have := Vs.take h.il k; unfold Il; rw [ivs_take]; exact this, by have := h.le; rw [List.length_take]; omega, h.cap, h.none⟩

set_option maxRecDepth 100000 in
set_option maxHeartbeats 2000000 in
theorem pspread_any (A : Option Addr) (ca : Nat) (x : List Int) (w : World) (hx : IP w A ca x) (ox : okl x) :
    Calls Try.prog 21 #[.slice A x.length ca] w fun e w' => e = .returned (.int .i64 (spr x)) ∧ Below w.heap.size w w' := by
  have hle := hx.le
  have hcap := hx.cap
  have h4 := ox.1
  have HX := Lib.hid hx
  have OX := Lib.hid ox
  clear hx ox
  go_enter Try.func21, Try.ntmps21
  go_wp2
  go_loopw [3, 10] (fun i b wr => ∃ k : Nat, k ≤ x.length ∧ i = .int .i64 (spr (x.take k)) ∧ b = .int .i64 k ∧ Below w.heap.size w wr) (fun _ i _ => x.length - (intOf i).toNat)
  case atStart => exact ⟨0, by omega, by simp [spr, ssq, ssum], rfl, Below.refl _ _⟩
  case round =>
    obtain ⟨k, hk, rfl, rfl, hB⟩ := hrel
    have HB := Lib.hid hB
    clear hB
    by_cases hlt : k < x.length
    · have HS := Lib.hid (spr_take x hlt)
      have hcb := cov_bd2 rfl OX.out.2 OX.out.2 h4 k (by omega)
      rw [← spr_cov] at hcb
      have hpb : Hid (∀ j, j ≤ k → -1759218604441600 ≤ prow (x.getD k 0) (x.take j) ∧ prow (x.getD k 0) (x.take j) ≤ 1759218604441600) := fun j hj => by
        rw [prow_prow2]; exact prow2_bd2 rfl OX.out.2 OX.out.2 h4 k j hlt hj
      have bx := sin_at OX.out.2 hlt
      obtain ⟨b, off, rfl, _, hcx⟩ := (HX.out.later HB.out).il.at (by omega)
      have d1 := hcx k hlt
      obtain ⟨C, hC⟩ : ∃ C, spr (x.take k) = C := ⟨_, rfl⟩
      rw [hC] at hcb HS ⊢
      clear hC hcx
      obtain ⟨X, hX⟩ : ∃ X, x.getD k 0 = X := ⟨_, rfl⟩
      rw [hX] at d1 bx hpb HS
      have HXX := Lib.hid hX
      clear hX
      obtain ⟨wa, hwa⟩ : ∃ wa, wa = wr := ⟨_, rfl⟩
      subst hwa
      go_wp2
      go_loopw [3, 19] (fun i b wr => ∃ j : Nat, j ≤ k ∧ i = .int .i64 (C + prow X (x.take j)) ∧ b = .int .i64 j ∧ Below w.heap.size w wr) (fun _ i _ => k - (intOf i).toNat)
      case atStart => exact ⟨0, by omega, by simp [prow], rfl, HB.out⟩
      case round =>
        clear HB
        obtain ⟨j, hj, rfl, rfl, hB⟩ := hrel
        have HB := Lib.hid hB
        clear hB d1
        by_cases hjl : j < k
        · obtain ⟨b1, o1, eA, _, hcx⟩ := (HX.out.later HB.out).il.at (by omega)
          injection eA with eA
          injection eA with eA1 eA2
          subst eA1 eA2
          have d3 := hcx j (by omega)
          have HP : Hid (prow X (x.take (j + 1)) = prow X (x.take j) + (X - x.getD j 0) * (X - x.getD j 0)) := prow_succ (by omega)
          have bp := hpb.out j hj
          have bx2 := sin_at OX.out.2 (k := j) (by omega)
          have bm := dif_bd bx bx2 bx bx2
          clear hcx
          generalize prow X (x.take j) = P at *
          generalize x.getD j 0 = c at *
          have e0 : IntKind.i64.wrap (X - c) = X - c := IntWalk.i64_in _ (by omega)
          have e1 : IntKind.i64.wrap ((X - c) * (X - c)) = (X - c) * (X - c) := IntWalk.i64_in _ (by omega)
          have e2 : IntKind.i64.wrap (C + P + (X - c) * (X - c)) = C + P + (X - c) * (X - c) := IntWalk.i64_in _ (by omega)
          go_wp2
          go_roundw
          case rel => exact ⟨j + 1, by omega, by rw [HP.out, ← Int.add_assoc], by go_num, HB.out⟩
          case measure => simp [intOf]; omega
        · obtain rfl : j = k := by omega
          go_wp2
          go_roundw
          case rel => exact ⟨j + 1, by omega, by rw [HS.out], by go_num, HB.out⟩
          case measure => simp [intOf]; omega
    · obtain rfl : k = x.length := by omega
      have R : Hid (spr (x.take x.length) = spr x) := by
        show _ = _
        rw [List.take_length]
      go_wp2
      go_ret
      exact ⟨by rw [← R.out]; rfl, HB.out⟩
end Go.Proofs.Ytclfimpcacoefaa
