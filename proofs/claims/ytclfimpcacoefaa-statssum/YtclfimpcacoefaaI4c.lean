/- Int.CmpAbs (cut out of I4). -/
import Derived.Test.YtclfimpcacoefaaI2
import Derived.Test.YtclfimpcacoefaaHn
namespace Go.Proofs.Ytclfimpcacoefaa
open Go.RowKit

/-- What a comparison reads of an Int: its fields, its digits. -/
theorem IsI.open_ {w : World} {g : Nat} {z : Int} (h : IsI w g z) : ∃ A c, w.cell? ⟨g, 0, none⟩ = some (.bool (decide (z < 0))) ∧ w.cell? ⟨g, 1, none⟩ = some (.slice A (H.words z.natAbs).length c) ∧ H.Wd w A (H.words z.natAbs) ∧ (H.words z.natAbs).length ≤ c := by
  obtain ⟨A, c, h1, h2, h3⟩ := h
  exact ⟨A, c, h1.cell0, h1.cell1, h2, h3⟩

set_option maxRecDepth 100000 in
set_option maxHeartbeats 1000000 in
theorem icmpAbs_core (bx bY : Nat) (A B : Option Addr) (ca cb : Nat) (xs ys : List Nat) (w : World) (hx1 : w.cell? ⟨bx, 1, none⟩ = some (.slice A xs.length ca)) (hy1 : w.cell? ⟨bY, 1, none⟩ = some (.slice B ys.length cb))
    (ha : H.Wd w A xs) (hb : H.Wd w B ys) (kx : H.Cn xs) (ky : H.Cn ys) (hlx : xs.length ≤ 11000000000000) (hly : ys.length ≤ 11000000000000) :
    Calls Try.prog 28 #[.pointer (some ⟨bx, 0, none⟩), .pointer (some ⟨bY, 0, none⟩)] w fun e w' => e = .returned (.int .i64 (ord (H.val xs) (H.val ys))) ∧ Below w.heap.size w w' := by
  have HA := Lib.hid ha
  have HB := Lib.hid hb
  have KX := Lib.hid kx
  have KY := Lib.hid ky
  clear ha hb kx ky
  by_cases hl : xs.length = ys.length
  · have h1 := neq_no hl
    have HL := Lib.hid hl
    clear hl
    have X1 := Lib.hid hx1
    have Y1 := Lib.hid hy1
    have lx := block_lt_of_cell hx1
    have ly := block_lt_of_cell hy1
    simp only at lx ly
    go_enter Try.func28, Try.ntmps28
    go_wp2
    go_quiet (fail)
    go_wp2
    go_loopw [5] (fun i wr => ∃ k : Nat, k ≤ xs.length ∧ i = .int .i64 ((k : Int) - 1) ∧ (∀ j, k ≤ j → H.wd xs j = H.wd ys j) ∧ Below w.heap.size w wr) (fun i _ => (intOf i + 1).toNat)
    case atStart => exact ⟨xs.length, Nat.le_refl _, rfl, fun j hj => by rw [H.wd_out hj, H.wd_out (by rw [← HL.out]; exact hj)], below_drewN (Below.refl _ _) _⟩
    case round =>
      clear hx1 hy1
      obtain ⟨k, hk, rfl, hE, hW⟩ := hrel
      have HE := Lib.hid hE
      have HW := Lib.hid hW
      have hx1 := (hW.cell (p := ⟨bx, 1, none⟩) lx).trans X1.out
      have hy1 := (hW.cell (p := ⟨bY, 1, none⟩) ly).trans Y1.out
      clear hE hW h1
      cases k with
      | zero =>
        have E0 : Hid (0 = ord (H.val xs) (H.val ys)) := by
          have : xs = ys := H.list_of_wd HL.out (fun j _ => HE.out j (by omega))
          show (0 : Int) = _
          rw [this, ord_eq rfl]
        rw [show ((0 : Nat) : Int) - 1 = -1 from rfl]
        go_wp2
        go_ret
        exact ⟨retI E0.out, HW.out⟩
      | succ m =>
        rw [show ((m + 1 : Nat) : Int) - 1 = (m : Int) by omega]
        have hlt2 : m < ys.length := by have := HL.out; omega
        have hlt1 : m < xs.length := by omega
        obtain ⟨b1, o1, rfl, _, hc1⟩ := (HA.out.below HW.out).2 (by omega)
        obtain ⟨b2, o2, rfl, _, hc2⟩ := (HB.out.below HW.out).2 (by omega)
        have e1 := hc1 m hlt1
        have e2 := hc2 m hlt2
        clear hc1 hc2
        have i1 : (m : Int) < (xs.length : Int) := by omega
        have i2 : (m : Int) < (ys.length : Int) := by omega
        by_cases he : H.wd xs m = H.wd ys m
        · have hne := neq_no he
          have H2 := Lib.hid he
          clear he
          go_wp2
          go_quiet (fail)
          go_wp2
          go_roundw
          case rel => exact ⟨m, by omega, rfl, fun j hj => by
                        by_cases e : j = m
                        · rw [e]; exact H2.out
                        · exact HE.out j (by omega), below_drewN HW.out _⟩
          case measure => simp [intOf]
        · have hne := neq_yes he
          have E0 := H.ord_digit HA.out.1 HB.out.1 HL.out hlt1 HE.out he
          rcases Nat.lt_or_gt_of_ne he with hq | hq
          · have E1 : Hid (-1 = ord (H.val xs) (H.val ys)) := by show (-1 : Int) = _; rw [← E0, ord_lt hq]
            clear he E0
            go_wp2
            go_quiet (fail)
            go_wp2
            go_quiet (fail)
            go_wp2
            go_ret
            exact ⟨retI E1.out, by first | exact below_drewN HW.out _ | exact below_drewN (below_drewN HW.out _) _⟩
          · have E1 : Hid (1 = ord (H.val xs) (H.val ys)) := by show (1 : Int) = _; rw [← E0, ord_gt hq]
            clear he E0
            go_wp2
            go_quiet (fail)
            go_wp2
            go_quiet (fail)
            go_wp2
            go_ret
            exact ⟨retI E1.out, by first | exact below_drewN HW.out _ | exact below_drewN (below_drewN HW.out _) _⟩
  · rcases Nat.lt_or_gt_of_ne hl with k | k
    · have h1 := neq_yes hl
      have E : Hid (-1 = ord (H.val xs) (H.val ys)) := by show (-1 : Int) = _; rw [← H.ord_len HA.out.1 HB.out.1 KX.out KY.out hl, ord_lt k]
      clear hl
      go_enter Try.func28, Try.ntmps28
      go_wp2
      go_quiet (fail)
      go_wp2
      go_quiet (fail)
      go_wp2
      go_ret
      exact ⟨retI E.out, by first | exact below_drewN (Below.refl _ _) _ | exact below_drewN (below_drewN (Below.refl _ _) _) _⟩
    · have h1 := neq_yes hl
      have E : Hid (1 = ord (H.val xs) (H.val ys)) := by show (1 : Int) = _; rw [← H.ord_len HA.out.1 HB.out.1 KX.out KY.out hl, ord_gt k]
      clear hl
      go_enter Try.func28, Try.ntmps28
      go_wp2
      go_quiet (fail)
      go_wp2
      go_quiet (fail)
      go_wp2
      go_ret
      exact ⟨retI E.out, by first | exact below_drewN (Below.refl _ _) _ | exact below_drewN (below_drewN (Below.refl _ _) _) _⟩

theorem icmpAbs_len (bx bY : Nat) (X Y : Int) (w : World) (hx : IsI w bx X) (hy : IsI w bY Y) (sx : DL X 11000000000000) (sy : DL Y 11000000000000) :
    Calls Try.prog 28 #[.pointer (some ⟨bx, 0, none⟩), .pointer (some ⟨bY, 0, none⟩)] w fun e w' => e = .returned (.int .i64 (ord X.natAbs Y.natAbs)) ∧ Below w.heap.size w w' := by
  obtain ⟨A, ca, _, h1, h2, _⟩ := hx.open_
  obtain ⟨B, cb, _, k1, k2, _⟩ := hy.open_
  have := icmpAbs_core bx bY A B ca cb _ _ w h1 k1 h2 k2 (H.words_cn _) (H.words_cn _) sx.out sy.out
  rwa [H.val_words, H.val_words] at this

theorem icmpAbs_any (bx bY : Nat) (X Y : Int) (w : World) (hx : IsI w bx X) (hy : IsI w bY Y) (sx : X.natAbs < Bh ^ 900000) (sy : Y.natAbs < Bh ^ 900000) :
    Calls Try.prog 28 #[.pointer (some ⟨bx, 0, none⟩), .pointer (some ⟨bY, 0, none⟩)] w fun e w' => e = .returned (.int .i64 (ord X.natAbs Y.natAbs)) ∧ Below w.heap.size w w' :=
  icmpAbs_len bx bY X Y w hx hy ((DL.of_pow sx).up (by decide)) ((DL.of_pow sy).up (by decide))
end Go.Proofs.Ytclfimpcacoefaa
