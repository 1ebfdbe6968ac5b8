/- lotdrawerkeep.PermPairs: the walk. -/
import Derived.Test.YtbchdnmpohnkiaaP9
import Derived.Test.YtbchdnmpohnkiaaP4
import Derived.Test.YtbchdnmpohnkiaaPq
import Derived.Test.YtbchdnmpohnkiaaP5
import Derived.Deep.QuietTactic
import Derived.BigQuiet
import Derived.WalkSmall
namespace Go.Proofs.Ytbchdnmpohnkiaa
open Go.RowKit Go.Deep

/-- The clone with two places changed. -/
theorem clone_swp {w7 : World} {g cap j m : Nat} {ys : List Value} {p : List Int} (hb : Bs 3 w7 g ys) (hyl : ys.length = cap) (hcp : cap ≤ 9223372036854775807) (hyt : ys.take p.length = ivs p) :
    IP ((w7.setCell ⟨g, j, none⟩ (.int .i64 (p.getD m 0))).setCell ⟨g, m, none⟩ (.int .i64 (p.getD j 0))).drew (some ⟨g, 0, none⟩) cap (swp p j m) := by
  have h2 : Bs 3 ((w7.setCell ⟨g, j, none⟩ (.int .i64 (p.getD m 0))).setCell ⟨g, m, none⟩ (.int .i64 (p.getD j 0))).drew g ((ys.set j (.int .i64 (p.getD m 0))).set m (.int .i64 (p.getD j 0))) := (hb.set j _).set m _
  have hl : p.length ≤ ys.length := by
    have := congrArg List.length hyt
    simp [ivs_len] at this; omega
  refine ⟨?_, by rw [swp_len]; omega, hcp, fun h => by cases h⟩
  have h3 := h2.vs.take p.length
  rw [List.take_set, List.take_set, hyt, ivs_set, ivs_set] at h3
  exact h3

set_option maxRecDepth 100000 in
set_option maxHeartbeats 4000000 in
theorem permPairs_walk (A : Option Addr) (ca : Nat) (p : List Int) (k : Int) (w : World) (hp : IP w A ca p) (hk : k ≤ 9223372036854775807) :
    Calls Try.prog 8 #[.slice A p.length ca, .int .i64 k] w fun e w' => e = .returned (.bool true) ∧ Below w.heap.size w w' := by
  have CA := Lib.hid (alive4_any w)
  have hle := hp.le
  have hcap := hp.cap
  have HP := Lib.hid hp
  clear hp
  go_enter Try.func8, Try.ntmps8
  go_wp2_with fail
  refine CA.out.mono ?_
  rintro e w1 ⟨rfl, hB1⟩
  have HB := Lib.hid hB1
  have C1 := Lib.hid (permCode_any A ca p w1 (HP.out.later hB1))
  clear CA hB1
  go_wp2_with fail
  refine C1.out.mono ?_
  rintro e w2 ⟨R2, c2, rfl, hI2, hB2⟩
  have HB := Lib.hid (HB.out.trans (hB2.mono HB.out.size))
  have C2 := Lib.hid (permBack_any A ca p w2 (HP.out.later HB.out))
  have I2 := Lib.hid hI2
  clear C1 hB2 hI2
  unfold codeR at I2 ⊢
  unfold backR at C2
  by_cases hok : Ok p
  · rw [if_pos hok] at I2 C2 ⊢
    have HO := Lib.hid hok
    have hlen := hok.1
    clear hok
    unfold ltup
    simp only [] at I2 ⊢
    go_wp2_with fail
    refine C2.out.mono ?_
    rintro e w3 ⟨R3, c3, rfl, hI3, hB3⟩
    have HB := Lib.hid (HB.out.trans (hB3.mono HB.out.size))
    have I2 := Lib.hid (I2.out.later hB3)
    have hI3' : IP w3 R3 c3 (backL p) := hI3
    have C3 := Lib.hid (permCode_any R3 c3 (backL p) w3 hI3')
    unfold codeR at C3
    rw [if_pos (backL_ok HO.out)] at C3
    clear C2 hB3 hI3 hI3'
    unfold ltup
    simp only []
    go_wp2_with fail
    refine C3.out.mono ?_
    rintro e w4 ⟨R4, c4, rfl, hI4, hB4⟩
    have HB := Lib.hid (HB.out.trans (hB4.mono HB.out.size))
    have I2 := Lib.hid (I2.out.later hB4)
    have hI4' : IP w4 R4 c4 (ints (code (backL p))) := hI4
    have I4 := Lib.hid hI4'
    clear C3 hB4 hI4 hI4'
    unfold ltup
    simp only []
    have hinv := inv_le p
    have hinv2 : inv p ≤ 400 := Nat.le_trans hinv (Nat.mul_le_mul hlen hlen)
    clear hinv
    go_wp2_with fail
    go_loopw [12, 52] (fun sv iv wr => ∃ i : Nat, i ≤ p.length ∧ sv = .int .i64 (inv (p.take i) : Nat) ∧ iv = .int .i64 i ∧ Below w4.heap.size w4 wr) (fun _ iv _ => p.length - (intOf iv).toNat)
    case atStart => exact ⟨0, by omega, rfl, rfl, Below.refl _ _⟩
    case round =>
      obtain ⟨i, hi, rfl, rfl, hBr⟩ := hrel
      have HBr := Lib.hid hBr
      clear hBr
      by_cases hlt : i < p.length
      · have hbi := inv_le (p.take i)
        have hbi2 : inv (p.take i) ≤ 400 := Nat.le_trans hbi (Nat.mul_le_mul (show (p.take i).length ≤ 20 by simp; omega) (show (p.take i).length ≤ 20 by simp; omega))
        clear hbi
        have EI := Lib.hid (inv_take hlt)
        have EG : Hid (∀ j, j < i → gt (p.getD i 0) (p.take (j + 1)) = gt (p.getD i 0) (p.take j) + if p.getD i 0 < p.getD j 0 then 1 else 0) := fun j hj => by
          show _ = _
          rw [take_snoc (by omega), gt_snoc]
        have EL : Hid (∀ j, gt (p.getD i 0) (p.take j) ≤ 20) := fun j => by
          have := gt_le (p.getD i 0) (p.take j)
          rw [List.length_take] at this
          show gt (p.getD i 0) (p.take j) ≤ 20
          omega
        have HCi : Hid (∀ wq, Below w4.heap.size w4 wq → ∃ b off : Nat, A = some ⟨b, off, none⟩ ∧ ∀ j, j < p.length → wq.cell? ⟨b, off + j, none⟩ = some (.int .i64 (p.getD j 0))) := fun wq hq => by
          obtain ⟨b, off, e, _, hc⟩ := (HP.out.il.later (HB.out.trans (hq.mono HB.out.size))).at (by omega)
          exact ⟨b, off, e, hc⟩
        obtain ⟨x, hx⟩ : ∃ x, p.getD i 0 = x := ⟨_, rfl⟩
        rw [hx] at EI EG EL
        generalize inv (p.take i) = a at *
        go_wp2_with fail
        go_loopw [12, 56] (fun sv iv wq => ∃ j : Nat, j ≤ i ∧ sv = .int .i64 ((a + gt x (p.take j) : Nat) : Int) ∧ iv = .int .i64 j ∧ Below w4.heap.size w4 wq) (fun _ iv _ => i - (intOf iv).toNat)
        case atStart => exact ⟨0, by omega, by simp [gt], rfl, HBr.out⟩
        case round =>
          obtain ⟨j, hj, rfl, rfl, hBq⟩ := hrel
          have HBq := Lib.hid hBq
          clear hBq HBr
          by_cases hjl : j < i
          · obtain ⟨b, off, rfl, hc⟩ := HCi.out _ HBq.out
            have c1 := hc i hlt
            have c2 := hc j (by omega)
            rw [hx] at c1
            have E := Lib.hid (EG.out j hjl)
            have hb := EL.out j
            have i1 : (i : Int) < (p.length : Int) := by omega
            have i2 : (j : Int) < (p.length : Int) := by omega
            obtain ⟨y, hy⟩ : ∃ y, p.getD j 0 = y := ⟨_, rfl⟩
            rw [hy] at c2 E
            generalize gt x (p.take j) = b2 at *
            clear hc hy hx
            by_cases hxy : x < y
            · have ty : decide (x < y) = true := decide_eq_true hxy
              go_wp2_with fail
              go_quiet (fail)
              go_wp2
              go_roundw
              case rel => exact ⟨j + 1, by omega, by rw [E.out, if_pos hxy]; go_num, by go_num, below_drewN HBq.out _⟩
              case measure => simp [intOf]; omega
            · have ty : decide (x < y) = false := decide_eq_false hxy
              go_wp2_with fail
              go_quiet (fail)
              go_wp2
              go_roundw
              case rel => exact ⟨j + 1, by omega, by rw [E.out, if_neg (by omega)]; go_num, by go_num, below_drewN HBq.out _⟩
              case measure => simp [intOf]; omega
          · obtain rfl : i = j := by omega
            go_wp2
            go_roundw
            case rel => exact ⟨i + 1, by omega, by rw [EI.out], by go_num, HBq.out⟩
            case measure => simp [intOf]; omega
      · obtain rfl : p.length = i := by omega
        rw [List.take_length]
        have HB := Lib.hid (HB.out.trans (HBr.out.mono HB.out.size))
        have I2 := I2.out.later HBr.out
        have I4 := I4.out.later HBr.out
        have C5 := Lib.hid (sumUp_any R2 c2 (code p) wr I2 (by show inv p ≤ _; omega))
        have C6 := Lib.hid (sumUp_any R4 c4 (code (backL p)) wr I4 (by show inv (backL p) ≤ _; rw [inv_back HO.out]; omega))
        rw [show (code (backL p)).sum = inv p from inv_back HO.out] at C6
        rw [show (code p).sum = inv p from rfl] at C5
        have ES : Hid (∀ j, j + 1 < p.length → inv (swp p j (j + 1)) + (if p.getD (j + 1) 0 < p.getD j 0 then 1 else 0) = inv p + (if p.getD (j + 1) 0 < p.getD j 0 then 0 else 1)) := fun j hj =>
          inv_swp hj (fun e => by have := HO.out.inj (by omega) hj e; omega)
        generalize inv p = s at *
        clear I2 I4 HBr
        go_wp2_with fail
        refine C5.out.mono ?_
        rintro e w5 ⟨rfl, rfl⟩
        go_wp2_with fail
        refine C6.out.mono ?_
        rintro e w6 ⟨rfl, rfl⟩
        clear C5 C6
        by_cases k0 : k < 0
        · go_wp2
          go_ret
          exact ⟨rfl, HB.out⟩
        · obtain ⟨j, rfl⟩ : ∃ j : Nat, k = (j : Int) := ⟨k.toNat, by omega⟩
          by_cases k1 : p.length ≤ j
          · go_wp2
            go_ret
            exact ⟨rfl, HB.out⟩
          · by_cases k2 : p.length ≤ j + 1
            · go_wp2
              go_ret
              exact ⟨rfl, HB.out⟩
            · have C7 := Lib.hid (cloneI_any A ca p w6 (HP.out.later HB.out) (by omega) (by omega))
              go_wp2_with fail
              refine C7.out.mono ?_
              rintro e w7 ⟨g, cap, ys, rfl, hg, hb, hyl, hcp, hyt, hB7⟩
              have HB7 := Lib.hid (HB.out.trans (hB7.mono HB.out.size))
              have hyl2 : p.length ≤ ys.length := by
                have := congrArg List.length hyt
                simp [ivs_len] at this; omega
              have cg : ∀ t, t < p.length → w7.cell? ⟨g, t, none⟩ = some (.int .i64 (p.getD t 0)) := fun t ht => by
                rw [hb.cell (by omega), take_at hyt ht, ivs_at ht]
              obtain ⟨m, hm⟩ : ∃ m, j + 1 = m := ⟨_, rfl⟩
              have c1 := cg j (by omega)
              have c2 := cg m (by omega)
              have f1 := hb.frozen j
              have f2 := hb.frozen m
              obtain ⟨b, off, rfl, _, hc⟩ := (HP.out.il.later HB7.out).at (by omega)
              have d1 := hc j (by omega)
              have d2 := hc m (by omega)
              clear C7 cg hc
              have HG := Lib.hid hg
              have HBs := Lib.hid hb
              have HY := Lib.hid hyt
              have i1 : (j : Int) < (p.length : Int) := by omega
              have i2 : (m : Int) < (p.length : Int) := by omega
              have i3 : IntKind.i64.wrap ((j : Int) + 1) = (m : Int) := by rw [IntKind.wrap_i64]; omega
              have hjm : j ≠ m := by omega
              have ES2 := Lib.hid (ES.out j (by omega))
              rw [hm] at ES2
              have HM := Lib.hid hm
              have ml : m < p.length := by omega
              have jl : j < p.length := by omega
              clear hg hb hyt hm k0 k1 k2 ES
              obtain ⟨vj, hvj⟩ : ∃ v, p.getD j 0 = v := ⟨_, rfl⟩
              obtain ⟨vm, hvm⟩ : ∃ v, p.getD m 0 = v := ⟨_, rfl⟩
              have I8 := clone_swp (j := j) (m := m) HBs.out hyl hcp HY.out
              have C8 := Lib.hid (permCode_any (some ⟨g, 0, none⟩) cap (swp p j m) _ I8)
              unfold codeR at C8
              rw [if_pos (by rw [← HM.out]; exact swp_ok HO.out (by rw [HM.out]; exact ml)), swp_len] at C8
              have HB8 : Hid (Below w.heap.size w ((w7.setCell ⟨g, j, none⟩ (.int .i64 (p.getD m 0))).setCell ⟨g, m, none⟩ (.int .i64 (p.getD j 0))).drew) :=
                ((HB7.out.setCell (p := ⟨g, j, none⟩) (Nat.le_trans HB.out.size HG.out) _).setCell (p := ⟨g, m, none⟩) (Nat.le_trans HB.out.size HG.out) _).drew
              rw [hvj, hvm] at C8 HB8
              rw [hvj] at c1 d1 ES2
              rw [hvm] at c2 d2 ES2
              have hi8 : inv (swp p j m) ≤ 401 := by
                have := ES2.out
                by_cases hc : vm < vj
                · rw [if_pos hc, if_pos hc] at this; omega
                · rw [if_neg hc, if_neg hc] at this; omega
              have HVJ := Lib.hid hvj
              have HVM := Lib.hid hvm
              clear I8 hvj hvm
              go_wp2_with fail
              go_region
              clear c1 c2 f1 f2 d1 d2
              go_wp2_with fail
              refine C8.out.mono ?_
              rintro e w8 ⟨R8, c8, rfl, hI8, hB8⟩
              have HB := Lib.hid (HB8.out.trans (hB8.mono HB8.out.size))
              have hI8' : IP w8 R8 c8 (ints (code (swp p j m))) := hI8
              have I8 := Lib.hid hI8'
              clear C8 hB8 hI8 hI8' hB7 HBs HY
              unfold ltup
              simp only []
              obtain ⟨b3, off3, e3, _, hc⟩ := (HP.out.il.later HB.out).at (by omega)
              cases e3
              have d1 := hc j jl
              have d2 := hc m ml
              rw [HVJ.out] at d1
              rw [HVM.out] at d2
              have C9 : Hid (∀ n, Calls Try.prog 23 #[.slice R8 (ints (code (swp p j m))).length c8] (w8.drewN n) fun e w' => e = .returned (.int .i64 (inv (swp p j m) : Nat)) ∧ w' = w8.drewN n) := fun n =>
                sumUp_any R8 c8 (code (swp p j m)) (w8.drewN n) (I8.out.later (below_drewN (Below.refl _ _) n)) (by show inv (swp p j m) ≤ _; omega)
              have HBn : Hid (∀ n, Below w.heap.size w (w8.drewN n)) := fun n => below_drewN HB.out n
              have ES3 := ES2.out
              generalize inv (swp p j m) = s2 at *
              clear hc I8 HVJ HVM ES2
              by_cases hvv : vm < vj
              · rw [if_pos hvv, if_pos hvv] at ES3
                have ty : decide (vm < vj) = true := decide_eq_true hvv
                go_wp2_with fail
                go_quiet (fail)
                go_wp2_with fail
                refine (C9.out _).mono ?_
                rintro e w9 ⟨rfl, rfl⟩
                have e1 : ((s2 : Int) == (s : Int) + -1) = true := by rw [beq_iff_eq]; omega
                have e2 : (s : Int) - 1 = (s2 : Int) := by omega
                have e3 : (s : Int) + -1 = (s2 : Int) := by omega
                go_wp2
                go_ret
                exact ⟨retB (by first | rfl | simp), HBn.out _⟩
              · rw [if_neg hvv, if_neg hvv] at ES3
                have ty : decide (vm < vj) = false := decide_eq_false hvv
                go_wp2_with fail
                go_quiet (fail)
                go_wp2_with fail
                refine (C9.out _).mono ?_
                rintro e w9 ⟨rfl, rfl⟩
                obtain rfl : s2 = s + 1 := by omega
                go_wp2
                go_ret
                exact ⟨retB (by first | rfl | simp), HBn.out _⟩
  · rw [if_neg hok] at I2 C2 ⊢
    clear hok I2
    unfold ltup
    simp only []
    go_wp2_with fail
    refine C2.out.mono ?_
    rintro e w3 ⟨R3, c3, rfl, hI3, hB3⟩
    have HB := Lib.hid (HB.out.trans (hB3.mono HB.out.size))
    clear C2 hB3 hI3
    unfold ltup
    go_wp2
    go_ret
    exact ⟨rfl, HB.out⟩
end Go.Proofs.Ytbchdnmpohnkiaa
