/- lotdrawerkeep.CoinNot: the walk. -/
import Derived.Test.YtkfpomeemcmfmaaC4
import Derived.Test.YtkfpomeemcmfmaaCl
namespace Go.Proofs.Ytkfpomeemcmfmaa
open Go.RowKit

set_option maxRecDepth 100000 in
set_option maxHeartbeats 4000000 in
theorem coinNot_walk (A : Option Addr) (ca : Nat) (t : List Bool) (n d : Int) (w : World) (ht : TP w A ca t) (hc1 : ca ≤ 140737488351232) :
    Calls Try.prog 8 #[.slice A t.length ca, frac n d] w fun e w' => e = .returned (.bool true) ∧ Below w.heap.size w w' := by
  have HC := Lib.hid (frac_cells w n d)
  have hB0 : Below w.heap.size w (w.alloc (.cells #[.int .i64 n, .int .i64 d] 24)) := (Below.refl _ _).alloc (Nat.le_refl _) _
  have hsz : (w.alloc (.cells #[.int .i64 n, .int .i64 d] 24)).heap.size = w.heap.size + 1 := by simp
  have CA := Lib.hid (alive3_any (w.alloc (.cells #[.int .i64 n, .int .i64 d] 24)))
  have hl := ht.short
  have hle := ht.le
  have HT := Lib.hid (ht.later hB0)
  have HB0 := Lib.hid hB0
  clear ht hB0
  unfold frac
  go_enter Try.func8, Try.ntmps8
  go_wp2_with fail
  refine CA.out.mono ?_
  rintro e w1 ⟨rfl, hB1⟩
  generalize w.alloc (.cells #[.int .i64 n, .int .i64 d] 24) = w0 at *
  have CC := Lib.hid (clone_any A ca t w1 (HT.out.later hB1) (by omega))
  have HB1 := Lib.hid hB1
  clear hB1 CA
  have fin : Hid (∀ w', Below w0.heap.size w0 w' → Below w.heap.size w w') := fun w' h => HB0.out.trans (h.mono HB0.out.size)
  have HB2 : Hid (∀ w', Below w1.heap.size w1 w' → Below w0.heap.size w0 w') := fun w' h => HB1.out.trans (h.mono HB1.out.size)
  clear HB1 HB0
  go_wp2_with fail
  refine CC.out.mono ?_
  rintro e w2 ⟨R, cap, rfl, hR⟩
  have HR := Lib.hid hR
  clear CC hR
  go_wp2_with fail
  go_loopw [6, 20] (fun _ iv wr => ∃ i : Nat, i ≤ t.length ∧ iv = .int .i64 i ∧ NRel w1 R cap t i wr) (fun _ iv _ => t.length - (intOf iv).toNat)
  case atStart => exact ⟨0, Nat.zero_le _, rfl, HR.out⟩
  case round =>
    clear HR
    obtain ⟨i, hi, rfl, hR⟩ := hrel
    by_cases hlt : i < t.length
    · obtain ⟨g, rfl, hcell, hfz, hN⟩ := nrel_step hR hlt
      have HN := Lib.hid hN
      clear hN hR
      generalize t.getD i false = x at *
      go_wp2
      go_roundw
      case rel => exact ⟨i + 1, by omega, by go_num, HN.out⟩
      case measure => simp [intOf]; omega
    · obtain rfl : i = t.length := by omega
      have HM := Lib.hid (nrel_end hR hl)
      have hBr := HB2.out wr hR.1
      clear hR
      have c0 := (hBr.cell (p := ⟨w.heap.size, 0, none⟩) (by simp [hsz])).trans HC.out.1
      have c1 := (hBr.cell (p := ⟨w.heap.size, 1, none⟩) (by simp [hsz])).trans HC.out.2
      have CT := Lib.hid (toss_any A ca t n d wr (HT.out.later hBr))
      unfold ftup frac at CT
      have HBr := Lib.hid hBr
      clear hBr
      rcases toss_cases t n d with ⟨_, e1⟩ | ⟨a, b, rfl, rfl, hb1, hb2, hab, ⟨g1, e1⟩ | ⟨y, u, g1, hu, e1⟩⟩
      · rw [e1] at CT
        clear e1
        go_wp2_with fail
        refine CT.out.mono ?_
        rintro e w3 ⟨rfl, hB3⟩
        have hB4 : Below w0.heap.size w0 w3 := HBr.out.trans (hB3.mono HBr.out.size)
        clear c0 c1
        have c0 := (hB4.cell (p := ⟨w.heap.size, 0, none⟩) (by simp [hsz])).trans HC.out.1
        have c1 := (hB4.cell (p := ⟨w.heap.size, 1, none⟩) (by simp [hsz])).trans HC.out.2
        have CU := Lib.hid (toss_any R cap (t.map not) (wrap64 (d - n)) d w3 (HM.out.later hB3))
        rw [List.length_map] at CU
        unfold ftup frac at CU
        have HB4 := Lib.hid hB4
        clear hB3 hB4 CT HBr HM
        generalize toss (t.map not) (wrap64 (d - n)) d = r at *
        go_wp2_with fail
        refine CU.out.mono ?_
        rintro e w4 ⟨rfl, hB5⟩
        have HB5 := Lib.hid (fin.out w4 (HB4.out.trans (hB5.mono HB4.out.size)))
        clear hB5 CU
        go_wp2
        go_ret
        exact ⟨rfl, HB5.out⟩
      all_goals
        have q0 : (0 : Int) ≤ (b : Int) - (a : Int) := by omega
        have qe : (b : Int) - (a : Int) = ((b - a : Nat) : Int) := by omega
        rw [e1] at CT
        clear e1
        go_wp2_with fail
        refine CT.out.mono ?_
        rintro e w3 ⟨rfl, hB3⟩
        have hB4 : Below w0.heap.size w0 w3 := HBr.out.trans (hB3.mono HBr.out.size)
        clear c0 c1
        have c0 := (hB4.cell (p := ⟨w.heap.size, 0, none⟩) (by simp [hsz])).trans HC.out.1
        have c1 := (hB4.cell (p := ⟨w.heap.size, 1, none⟩) (by simp [hsz])).trans HC.out.2
        have CU := Lib.hid (toss_any R cap (t.map not) ((b - a : Nat) : Int) b w3 (HM.out.later hB3))
        rw [List.length_map, toss_good hb1 hb2 (by omega), tosG_not t (by omega) hab] at CU
        unfold ftup frac at CU
        have HB4 := Lib.hid hB4
        clear hB3 hB4 CT HBr HM
        obtain ⟨f, hf⟩ : ∃ f, b - a = f := ⟨_, rfl⟩
        rw [hf] at CU qe
        go_wp2_with fail
        refine CU.out.mono ?_
        rintro e w4 ⟨rfl, hB5⟩
        have HB5 := Lib.hid (HB4.out.trans (hB5.mono HB4.out.size))
        clear hB5 CU HB4
      · rw [g1]
        have HB6 := Lib.hid (fin.out w4 HB5.out)
        go_wp2
        go_ret
        exact ⟨rfl, HB6.out⟩
      · rw [g1]
        have hB5 := HB5.out
        have d0 : w4.drew.cell? ⟨w.heap.size, 0, none⟩ = some (.int .i64 (a : Int)) := (hB5.cell (p := ⟨w.heap.size, 0, none⟩) (by simp [hsz])).trans HC.out.1
        have d1 : w4.drew.cell? ⟨w.heap.size, 1, none⟩ = some (.int .i64 (b : Int)) := (hB5.cell (p := ⟨w.heap.size, 1, none⟩) (by simp [hsz])).trans HC.out.2
        have hlb : w.heap.size < w4.drew.heap.size := by show w.heap.size < w4.heap.size; have := hB5.size; omega
        have D := Lib.hid (And.intro hlb (And.intro d0 d1))
        have c2 : w4.cell? ⟨w.heap.size, 0, none⟩ = some (.int .i64 (a : Int)) := d0
        have c3 : w4.cell? ⟨w.heap.size, 1, none⟩ = some (.int .i64 (b : Int)) := d1
        have CG := Lib.hid (gcd_any a b w4.drew (by omega) (by omega))
        have gp : 0 < Nat.gcd a b := Nat.gcd_pos_of_pos_right _ (by omega)
        have gl : Nat.gcd a b ≤ b := Nat.gcd_le_right _ (by omega)
        have HG : Hid (∀ w5, Below w4.drew.heap.size w4.drew w5 → Below w.heap.size w w5) := fun w5 hb => fin.out w5 ((HB5.out.drew).trans (hb.mono (by show w0.heap.size ≤ w4.heap.size; exact HB5.out.size)))
        clear d0 d1 hlb hB5 g1 HB5 c0 c1
        generalize Nat.gcd a b = g at *
        have g0 : ((g : Int) == 0) = false := eqz_no (by omega)
        have q1 : (b : Int).tdiv (g : Int) = ((b / g : Nat) : Int) := by rw [Int.ofNat_tdiv]
        have q2 : 1 ≤ b / g := Nat.div_pos gl gp
        have q3 : b / g ≤ b := Nat.div_le_self _ _
        generalize b / g = q at *
        have q4 : IntKind.i64.wrap (q : Int) = (q : Int) := IntWalk.i64_in _ (by omega)
        have g2 : ¬ g = 0 := by omega
        have g3 : ¬ (g : Int) = 0 := by omega
        go_wp2_with fail
        go_region_held3 (fun w' => w'.cell? ⟨w.heap.size, 0, none⟩ = some (.int .i64 (a : Int)) ∧ w'.cell? ⟨w.heap.size, 1, none⟩ = some (.int .i64 (b : Int))) (go_keep)
          (first | (go_at_call 20; refine CG.out.mono ?_; rintro e w5 ⟨rfl, hb5⟩; have f0 := (hb5.cell (p := ⟨w.heap.size, 0, none⟩) D.out.1).trans D.out.2.1; have f1 := (hb5.cell (p := ⟨w.heap.size, 1, none⟩) D.out.1).trans D.out.2.2; have HB6 := Lib.hid hb5; clear hb5))
        have HB7 := Lib.hid (HG.out _ HB6.out)
        have q5 : (q : Int) ≤ 1099511627776 := by omega
        have q6 : (1 : Int) ≤ (q : Int) := by omega
        clear HB6 HG D CG q1 q4 g0 g2 g3 q0 qe hf f0 f1 c2 c3 hb2 q2 q3 hc1 hl hle hu hab hb1 gp gl hsz
        obtain ⟨V, hV⟩ : ∃ V, bits .and .i64 (q : Int) ((q : Int) - 1) = V := ⟨_, rfl⟩
        by_cases hV0 : V = 0
        · subst hV0
          cases y
          all_goals
            go_wp2
            go_ret
            exact ⟨rfl, HB7.out⟩
        · have hV1 : (V == 0) = false := by rw [beq_eq_false_iff_ne]; exact hV0
          cases y
          all_goals
            go_wp2
            go_ret
            exact ⟨by simp [cans], HB7.out⟩
end Go.Proofs.Ytkfpomeemcmfmaa
